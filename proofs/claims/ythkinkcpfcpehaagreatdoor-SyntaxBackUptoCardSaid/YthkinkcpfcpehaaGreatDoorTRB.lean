import Derived.Test.YthkinkcpfcpehaaGreatDoorTJ
import Derived.Maps.OwnSet
import Derived.DeepKeys4
import Derived.Deep.MidRow
import Derived.Deep.Slices
import Derived.Lib.SmallJoins
namespace Go.Proofs.YthkinkcpfcpehaaGreatDoor
set_option maxRecDepth 100000
set_option maxHeartbeats 2000000
section
open Go.RowKit Go.Shelf
attribute [local go_sem] Oper.semAt_some
/-- What a loop over the parts keeps in one box. -/
structure Inv (w : World) (B : Nat) (ty : TypeId) (val : List Part → Value) (E : List Nat) (pre : List Part) (W : World) : Prop where
  box : Boxed W B ty (val pre)
  out : B ∉ E
  low : ∀ r ∈ E, w.heap.size ≤ r ∧ r < W.heap.size
  bel : Below w.heap.size w W
theorem Inv.abide (w : World) (B : Nat) (ty : TypeId) (val : List Part → Value) : Abide (Inv w B ty val) := by
  intro E E' s W W' row h hg hr hE
  have hlt := h.box.lt
  refine ⟨h.box.kept hg (fun e => h.out (hr B e.symm)), fun hb => ?_, fun r hr' => ?_, h.bel.trans ⟨hg.os, hg.tape, hg.output, hg.size, fun k hk => hg.block k (Nat.lt_of_lt_of_le hk h.bel.size) (fun e => by have := h.low k (hr k e.symm); omega)⟩⟩
  · rcases hE B hb with hb | hb
    · exact h.out hb
    · omega
  · rcases hE r hr' with h' | h'
    · exact ⟨(h.low r h').1, Nat.lt_of_lt_of_le (h.low r h').2 hg.size⟩
    · exact ⟨Nat.le_trans h.bel.size h'.1, h'.2⟩
theorem Inv.store {w : World} {B : Nat} {ty : TypeId} {val : List Part → Value} {E : List Nat} {pre : List Part} {W : World} (h : Inv w B ty val E pre W) (hB : w.heap.size ≤ B) (v : Value) : Kept w.heap.size E W (W.setCell ⟨B, 0, none⟩ v) ∧ ∀ s, v = val s → Inv w B ty val E s (W.setCell ⟨B, 0, none⟩ v) := by
  have hb : Below w.heap.size W (W.setCell ⟨B, 0, none⟩ v) := (Below.refl _ _).setCell (p := ⟨B, 0, none⟩) hB _
  have g := grownBy_setCell' W B v
  have hs : ∀ s, v = val s → Inv w B ty val E s (W.setCell ⟨B, 0, none⟩ v) := fun s e => ⟨e ▸ h.box.set v, h.out, fun r hr => ⟨(h.low r hr).1, Nat.lt_of_lt_of_le (h.low r hr).2 g.size⟩, h.bel.trans hb⟩
  refine ⟨⟨hb, fun r hr => ?_⟩, hs⟩
  by_cases hlt : r < W.heap.size
  · exact g.block r hlt (fun e => h.out (Option.some.inj e ▸ hr))
  · have h2 : (W.setCell ⟨B, 0, none⟩ v).heap.size = W.heap.size := by simp
    rw [Array.getElem?_eq_none (by omega), Array.getElem?_eq_none (by omega)]
theorem size_parts (t : T) : ∀ pl, ((t.parts pl).length : Int) = t.size := by
  induction t using T.ind with
  | _ t ih =>
    intro pl
    have h : ∀ (l : List T) (i : Nat), (∀ a ∈ l, a ∈ t.args) → ((T.parts.kids l pl i).length : Int) = (l.map T.size).sum := by
      intro l
      induction l with
      | nil => intro i _; rfl
      | cons a r ihl =>
        intro i hm
        have h1 := ih a (hm a (by simp)) (pl ++ [(i : Int)])
        have h2 := ihl (i + 1) (fun b hb => hm b (by simp [hb]))
        simp only [T.parts.kids, List.length_append, List.map_cons, List.sum_cons]
        omega
    rw [t.parts_eq, t.size_eq, List.length_cons, ← h t.args 0 (fun _ h => h)]
    omega
theorem cnt_step (pre : List Part) (x : Part) : wrap64 ((pre ++ [x]).length : Int) = wrap64 (wrap64 (pre.length : Int) + 1) := by
  have h : ((pre ++ [x]).length : Int) = (pre.length : Int) + 1 := by simp
  rw [h]
  simp only [wrap64]
  omega
set_option maxRecDepth 100000 in
theorem tsize_any (t : T) (sl : Value) (w : World) (ha : ArgsAt w sl t.args) (hlen : ∀ q ∈ t.parts [], q.1.length ≤ 1048576) :
    Calls Tryz.prog 50 #[tval t sl] w fun e w' => e = .returned (.int .i64 (wrap64 t.size)) ∧ Below w.heap.size w w' := by
  refine (callsIn_wide (n := 9)).1 ?_
  obtain ⟨a, c, rfl, hc, hm⟩ := ha.slice
  obtain ⟨W0, hW0⟩ : ∃ W0, ((w.alloc (tbox t (.slice a t.args.length c))).alloc (.cells #[.int .i64 0] 3)).alloc (tbox t (.slice a t.args.length c)) = W0 := ⟨_, rfl⟩
  have hsz : W0.heap.size = w.heap.size + 3 := by rw [← hW0]; simp
  have hbel : Below w.heap.size w W0 := by rw [← hW0]; exact (((Below.refl _ _).alloc (Nat.le_refl _) _).alloc (by simp) _).alloc (by simp; omega) _
  have hB1 : Boxed W0 (w.heap.size + 1) 3 (.int .i64 0) := by
    have := (Boxed.new (w.alloc (tbox t (.slice a t.args.length c))) 3 (.int .i64 0)).alloc (tbox t (.slice a t.args.length c))
    rw [World.size_alloc] at this
    rw [← hW0]
    exact this
  have hB2 : W0.heap[w.heap.size + 1 + 1]? = some (.cells [Value.int .i64 t.v, .string t.fn, .slice a t.args.length c].toArray 24 (0, 0)) := by
    have := (MapKept.heap_alloc ((w.alloc (tbox t (.slice a t.args.length c))).alloc (.cells #[.int .i64 0] 3)) (tbox t (.slice a t.args.length c))).1
    rw [World.size_alloc, World.size_alloc] at this
    rw [← hW0]
    exact this
  have hR : Hid (wrap64 ((t.parts []).length : Int) = wrap64 t.size) := by show wrap64 _ = _; rw [size_parts]
  refine callsIn_of_wp_marks Tryz.func50 rfl trivial ?_ rfl
  simp only [Tryz.ntmps50, List.size_toArray, List.length_cons, List.length_nil, Nat.reduceAdd, Nat.reduceSub, Array.replicate_succ, Array.replicate_zero, List.push_toArray, List.append_toArray, List.nil_append, List.cons_append]
  gi_wp2_with (refine ⟨trivial, ?_⟩; gi_at_call 91; refine (callsIn_wide.2 (parts_any _ _ _)).mono ?_; rintro e w' ⟨rfl, rfl⟩)
  try rw [hW0]
  clear hW0
  refine range_own (n := W0.heap.size) (w0 := w) (all := t.parts []) (gf := 125) (lb := #[.pointer (some ⟨w.heap.size + 1 + 1, 0, none⟩)]) 9 rfl (enters_of Tryz.func125 (by kernel_rfl) rfl) rfl
    (fun W hW => iter_any w W0.heap.size (w.heap.size + 1 + 1) t _ W (hbel.trans (hW.mono (by omega))) (by omega) hW.size ((hW.block _ (by omega)).trans hB2) ha hlen)
    (Inv w (w.heap.size + 1) 3 (fun pre => .int .i64 (wrap64 pre.length))) (fun _ _ _ => False) (Inv.abide _ _ _ _) (fun _ _ _ _ _ _ h => h.elim)
    ⟨by simpa [wrap64] using hB1, by simp, by simp, hbel⟩ (by omega) (fun _ _ _ h r hr => (h.low r hr).2)
    (fun x y => { tmps := #[tval t (.slice a t.args.length c), .pointer (some ⟨w.heap.size, 0, none⟩), .int .i64 0, .pointer (some ⟨w.heap.size + 1, 0, none⟩), .agg #[.int .i64 t.v, .string t.fn, .slice a t.args.length c], .func (.func 125) #[] #[.pointer (some ⟨w.heap.size + 1 + 1, 0, none⟩)], x, y, undef, undef, undef], defers := [] }) ?assign ?body ?done ?stop
  case assign =>
    intro l x y W K hK
    gi_wp2
    simpa using hK
  case body =>
    rintro l E pre pl p pv sl W hi hl hw hpv hsl hrest
    have hc := hi.box.cell
    have hf := hi.box.frozen
    gi_wp2
    obtain ⟨h1, h2⟩ := hi.store (by omega) (.int .i64 (wrap64 (wrap64 (pre.length : Int) + 1)))
    exact ⟨h1, h2 _ (by rw [cnt_step])⟩
  case done =>
    rintro D E W hD hi hDE hK
    have hc := hi.box.cell
    gi_wp2
    refine ⟨by simp, .inl ⟨_, _, rfl, run_takeDeferred hK, ?_⟩⟩
    refine ⟨_, results_tmp rfl _ _ _, ?_, hi.bel.trans ⟨rfl, rfl, rfl, by simp, fun k hk => World.putObj_heap_other (by omega)⟩⟩
    show Ending.returned (Value.int .i64 (wrap64 ((t.parts []).length : Int))) = _
    exact ret_i64 hR
  case stop =>
    rintro D E pre W _ h
    exact h.elim
/-- The depth. -/
def T.depth : T → Int
  | .mk _ _ args => dps args 0 + 1
where dps : List T → Int → Int
  | [], m => m
  | a :: r, m => dps r (max m (T.depth a))
theorem T.depth_eq (t : T) : t.depth = (t.args.map T.depth).foldl max 0 + 1 := by
  have h : ∀ (l : List T) (m : Int), T.depth.dps l m = (l.map T.depth).foldl max m := by
    intro l
    induction l with
    | nil => intro m; rfl
    | cons a r ih => intro m; simp [T.depth.dps, ih]
  cases t with
  | mk v fn args => simp [T.depth, T.args, h]
/-- The depth, by the places. -/
def dm (l : List Part) : Int := l.foldl (fun m q => max m ((q.1.length : Int) + 1)) 0
theorem dm_snoc (l : List Part) (q : Part) : dm (l ++ [q]) = max (dm l) ((q.1.length : Int) + 1) := by simp [dm]
theorem fold_shift (c : Int) : ∀ (ds : List Int) (m x : Int), 0 ≤ x → ds.foldl (fun m d => max m (c + d)) (max m (c + x)) = max m (c + ds.foldl max x)
  | [], _, _, _ => rfl
  | d :: r, m, x, hx => by
    have h : max (max m (c + x)) (c + d) = max m (c + max x d) := by omega
    simp only [List.foldl_cons]
    rw [h]
    exact fold_shift c r m (max x d) (by omega)
theorem fold_parts (t : T) : ∀ (pl : List Int) (m : Int), (t.parts pl).foldl (fun m q => max m ((q.1.length : Int) + 1)) m = max m (pl.length + t.depth) := by
  induction t using T.ind with
  | _ t ih =>
    intro pl m
    have h : ∀ (l : List T) (i : Nat) (m : Int), (∀ a ∈ l, a ∈ t.args) → (T.parts.kids l pl i).foldl (fun m q => max m ((q.1.length : Int) + 1)) m = (l.map T.depth).foldl (fun m d => max m ((pl.length : Int) + 1 + d)) m := by
      intro l
      induction l with
      | nil => intro i m _; rfl
      | cons a r ihl =>
        intro i m hm
        simp only [T.parts.kids, List.foldl_append, List.map_cons, List.foldl_cons]
        rw [ih a (hm a (by simp)) (pl ++ [(i : Int)]) m, ihl (i + 1) _ (fun b hb => hm b (by simp [hb]))]
        congr 2
        simp
    rw [t.parts_eq, List.foldl_cons, h t.args 0 _ (fun _ h => h), t.depth_eq]
    have := fold_shift ((pl.length : Int) + 1) (t.args.map T.depth) m 0 (Int.le_refl _)
    simp only [Int.add_zero] at this
    rw [this]
    omega
theorem foldl_max_ge : ∀ (ds : List Int) (m : Int), m ≤ ds.foldl max m
  | [], _ => Int.le_refl _
  | d :: r, m => Int.le_trans (by omega) (foldl_max_ge r (max m d))
theorem depth_pos (t : T) : 1 ≤ t.depth := by
  rw [t.depth_eq]
  have := foldl_max_ge (t.args.map T.depth) 0
  omega
theorem dm_parts (t : T) : dm (t.parts []) = t.depth := by
  unfold dm
  rw [fold_parts t [] 0]
  have := depth_pos t
  simp
  omega
/-- All places are short: no list of them is great. -/
def Short (t : T) : Prop := ∀ q ∈ t.parts [], q.1.length ≤ 1048576
theorem dm_ge (l : List Part) : 0 ≤ dm l ∧ ((∀ q ∈ l, q.1.length ≤ 1048576) → dm l ≤ 1048577) := by
  have h : ∀ (l : List Part) (m : Int), m ≤ l.foldl (fun m q => max m ((q.1.length : Int) + 1)) m ∧ (m ≤ 1048577 → (∀ q ∈ l, q.1.length ≤ 1048576) → l.foldl (fun m q => max m ((q.1.length : Int) + 1)) m ≤ 1048577) := by
    intro l
    induction l with
    | nil => intro m; exact ⟨Int.le_refl _, fun h _ => h⟩
    | cons q r ih =>
      intro m
      obtain ⟨h1, h2⟩ := ih (max m ((q.1.length : Int) + 1))
      refine ⟨Int.le_trans (by omega) h1, fun hm hq => h2 ?_ (fun x hx => hq x (by simp [hx]))⟩
      have := hq q (by simp)
      omega
  exact ⟨(h l 0).1, fun hq => (h l 0).2 (by omega) hq⟩
theorem PlaceV.shape {n : Nat} {E : List Nat} {W : World} {pv : Value} {pl : List Int} (h : PlaceV n E W pv pl) : ∃ a c, pv = .slice a pl.length c := by
  rcases h.1.2 with ⟨rfl, h0⟩ | ⟨g, cap, cur, rfl, _⟩
  · exact ⟨none, 0, by rw [h0]⟩
  · exact ⟨_, _, rfl⟩
set_option maxRecDepth 100000 in
theorem tdepth_any (t : T) (sl : Value) (w : World) (ha : ArgsAt w sl t.args) (hlen : Short t) :
    Calls Tryz.prog 51 #[tval t sl] w fun e w' => e = .returned (.int .i64 t.depth) ∧ Below w.heap.size w w' := by
  refine (callsIn_wide (n := 9)).1 ?_
  obtain ⟨a, c, rfl, hc, hm⟩ := ha.slice
  obtain ⟨W0, hW0⟩ : ∃ W0, ((w.alloc (tbox t (.slice a t.args.length c))).alloc (.cells #[.int .i64 0] 3)).alloc (tbox t (.slice a t.args.length c)) = W0 := ⟨_, rfl⟩
  have hsz : W0.heap.size = w.heap.size + 3 := by rw [← hW0]; simp
  have hbel : Below w.heap.size w W0 := by rw [← hW0]; exact (((Below.refl _ _).alloc (Nat.le_refl _) _).alloc (by simp) _).alloc (by simp; omega) _
  have hB1 : Boxed W0 (w.heap.size + 1) 3 (.int .i64 0) := by
    have := (Boxed.new (w.alloc (tbox t (.slice a t.args.length c))) 3 (.int .i64 0)).alloc (tbox t (.slice a t.args.length c))
    rw [World.size_alloc] at this
    rw [← hW0]
    exact this
  have hB2 : W0.heap[w.heap.size + 1 + 1]? = some (.cells [Value.int .i64 t.v, .string t.fn, .slice a t.args.length c].toArray 24 (0, 0)) := by
    have := (MapKept.heap_alloc ((w.alloc (tbox t (.slice a t.args.length c))).alloc (.cells #[.int .i64 0] 3)) (tbox t (.slice a t.args.length c))).1
    rw [World.size_alloc, World.size_alloc] at this
    rw [← hW0]
    exact this
  have hR : Hid (dm (t.parts []) = t.depth) := dm_parts t
  refine callsIn_of_wp_marks Tryz.func51 rfl trivial ?_ rfl
  simp only [Tryz.ntmps51, List.size_toArray, List.length_cons, List.length_nil, Nat.reduceAdd, Nat.reduceSub, Array.replicate_succ, Array.replicate_zero, List.push_toArray, List.append_toArray, List.nil_append, List.cons_append]
  gi_wp2_with (refine ⟨trivial, ?_⟩; gi_at_call 91; refine (callsIn_wide.2 (parts_any _ _ _)).mono ?_; rintro e w' ⟨rfl, rfl⟩)
  try rw [hW0]
  clear hW0
  refine range_own (n := W0.heap.size) (w0 := w) (all := t.parts []) (gf := 125) (lb := #[.pointer (some ⟨w.heap.size + 1 + 1, 0, none⟩)]) 9 rfl (enters_of Tryz.func125 (by kernel_rfl) rfl) rfl
    (fun W hW => iter_any w W0.heap.size (w.heap.size + 1 + 1) t _ W (hbel.trans (hW.mono (by omega))) (by omega) hW.size ((hW.block _ (by omega)).trans hB2) ha hlen)
    (Inv w (w.heap.size + 1) 3 (fun pre => .int .i64 (dm pre))) (fun _ _ _ => False) (Inv.abide _ _ _ _) (fun _ _ _ _ _ _ h => h.elim)
    ⟨hB1, by simp, by simp, hbel⟩ (by omega) (fun _ _ _ h r hr => (h.low r hr).2)
    (fun x y => { tmps := #[tval t (.slice a t.args.length c), .pointer (some ⟨w.heap.size, 0, none⟩), .int .i64 0, .pointer (some ⟨w.heap.size + 1, 0, none⟩), x, .agg #[.int .i64 t.v, .string t.fn, .slice a t.args.length c], .func (.func 125) #[] #[.pointer (some ⟨w.heap.size + 1 + 1, 0, none⟩)], x, y, undef, undef, undef, undef, undef, undef], defers := [] }) ?assign ?body ?done ?stop
  case assign =>
    intro l x y W K hK
    gi_wp2
    simpa using hK
  case body =>
    rintro l E pre pl p pv sl W hi hl hw hpv hsl hrest
    have hc := hi.box.cell
    have hf := hi.box.frozen
    obtain ⟨pa, pc, rfl⟩ := hpv.shape
    obtain ⟨rest, hrest⟩ := hrest
    have hpl : pl.length ≤ 1048576 := hlen (pl, p) (by rw [← hrest]; simp)
    obtain ⟨d1, d2⟩ := dm_ge pre
    have d3 := d2 (fun q hq => hlen q (by rw [← hrest]; simp [hq]))
    clear d2 hlen hrest
    gi_wp2
    all_goals
      refine (fun h => ?_) (hi.store (by omega) (.int .i64 (dm (pre ++ [(pl, p)]))))
      obtain ⟨h1, h2⟩ := h
      have e := dm_snoc pre (pl, p)
      first
        | (rw [show max (dm pre) ((pl.length : Int) + 1) = (pl.length : Int) + 1 from by omega] at e; rw [e] at h1 h2; exact ⟨h1, h2 _ (by rw [e])⟩)
        | (rw [show max (dm pre) ((pl.length : Int) + 1) = dm pre from by omega] at e; rw [e] at h1 h2; exact ⟨h1, h2 _ (by rw [e])⟩)
        | trace_state
  case done =>
    rintro D E W hD hi hDE hK
    have hc := hi.box.cell
    gi_wp2
    refine ⟨by simp, .inl ⟨_, _, rfl, run_takeDeferred hK, ?_⟩⟩
    refine ⟨_, results_tmp rfl _ _ _, ?_, hi.bel.trans ⟨rfl, rfl, rfl, by simp, fun k hk => World.putObj_heap_other (by omega)⟩⟩
    show Ending.returned (Value.int .i64 (dm (t.parts []))) = _
    exact ret_i64 hR
  case stop =>
    rintro D E pre W _ h
    exact h.elim
end
section
open Go.RowKit
/-- A slice of terms in blocks of which P holds. -/
inductive ArgsP (P : Nat → Prop) (W : World) : Value → List T → Prop
  | mk (a : Option Addr) (c : Nat) (l : List T) (s : Nat → Value) (hc : l.length ≤ c) (hm : c ≤ 9223372036854775807)
      (at0 : 0 < l.length → ∃ b o, P b ∧ b < W.heap.size ∧ a = some ⟨b, o, none⟩ ∧ ∀ i (h : i < l.length), W.cell? ⟨b, o + i * 3, none⟩ = some (.int .i64 l[i].v) ∧ W.cell? ⟨b, o + i * 3 + 1, none⟩ = some (.string l[i].fn) ∧ W.cell? ⟨b, o + i * 3 + 2, none⟩ = some (s i))
      (sub : ∀ i (h : i < l.length), ArgsP P W (s i) l[i].args) : ArgsP P W (.slice a l.length c) l
theorem ArgsP.args {P : Nat → Prop} {W : World} {sl : Value} {l : List T} (h : ArgsP P W sl l) : ArgsAt W sl l := by
  induction h with
  | mk a c l s hc hm at0 sub ih =>
    refine .mk a c l s hc hm (fun h0 => ?_) ih
    obtain ⟨b, o, _, hlt, rfl, hcell⟩ := at0 h0
    exact ⟨b, o, hlt, rfl, hcell⟩
theorem ArgsP.keep {P P' : Nat → Prop} {W W' : World} {sl : Value} {l : List T} (h : ArgsP P W sl l) (hs : W.heap.size ≤ W'.heap.size) (hk : ∀ k, P k → k < W.heap.size → P' k ∧ W'.heap[k]? = W.heap[k]?) : ArgsP P' W' sl l := by
  induction h with
  | mk a c l s hc hm at0 sub ih =>
    refine .mk a c l s hc hm (fun h0 => ?_) ih
    obtain ⟨b, o, hn, hlt, rfl, hcell⟩ := at0 h0
    obtain ⟨hp, e⟩ := hk b hn hlt
    refine ⟨b, o, hp, Nat.lt_of_lt_of_le hlt hs, rfl, fun i hi => ?_⟩
    obtain ⟨h1, h2, h3⟩ := hcell i hi
    exact ⟨(World.cell?_of_block (a := ⟨b, _, none⟩) e).trans h1, (World.cell?_of_block (a := ⟨b, _, none⟩) e).trans h2, (World.cell?_of_block (a := ⟨b, _, none⟩) e).trans h3⟩
theorem ArgsAt.belowP {W : World} {sl : Value} {l : List T} (h : ArgsAt W sl l) : ArgsP (fun b => b < W.heap.size) W sl l := by
  induction h with
  | mk a c l s hc hm at0 sub ih =>
    refine .mk a c l s hc hm (fun h0 => ?_) ih
    obtain ⟨b, o, hlt, rfl, hcell⟩ := at0 h0
    exact ⟨b, o, hlt, hlt, rfl, hcell⟩
theorem ArgsP.nil (P : Nat → Prop) (W : World) : ArgsP P W (.slice none 0 0) [] :=
  .mk none 0 [] (fun _ => .slice none 0 0) (Nat.le_refl _) (by decide) (fun h => absurd h (by simp)) (fun i h => absurd h (by simp))
theorem ArgsP.slice {P : Nat → Prop} {W : World} {sl : Value} {l : List T} (h : ArgsP P W sl l) : ∃ a c, sl = .slice a l.length c := by
  cases h with
  | mk a c l s hc hm at0 sub => exact ⟨a, c, rfl⟩
theorem ArgsP.nth {P : Nat → Prop} {W : World} {a : Option Addr} {n c : Nat} {l : List T} (h : ArgsP P W (.slice a n c) l) {i : Nat} (hi : i < l.length) : ∃ b o s, a = some ⟨b, o, none⟩ ∧ P b ∧ b < W.heap.size ∧ W.cell? ⟨b, o + i * 3, none⟩ = some (.int .i64 l[i].v) ∧ W.cell? ⟨b, o + i * 3 + 1, none⟩ = some (.string l[i].fn) ∧ W.cell? ⟨b, o + i * 3 + 2, none⟩ = some s ∧ ArgsP P W s l[i].args := by
  cases h with
  | mk a c l s hc hm at0 sub =>
    obtain ⟨b, o, hp, hlt, rfl, hcell⟩ := at0 (by omega)
    obtain ⟨h1, h2, h3⟩ := hcell i hi
    exact ⟨b, o, s i, rfl, hp, hlt, h1, h2, h3, sub i hi⟩
theorem ArgsP.slice' {P : Nat → Prop} {W : World} {sl : Value} {l : List T} (h : ArgsP P W sl l) : ∃ a c, sl = .slice a l.length c ∧ l.length ≤ c ∧ c ≤ 9223372036854775807 := by
  cases h with
  | mk a c l s hc hm at0 sub => exact ⟨a, c, rfl, hc, hm⟩
end
section
open Go.RowKit Go.Maps
/-- Nothing old has turned but the blocks B. -/
structure Only (B : List Nat) (w w' : World) : Prop where
  os : w'.os = w.os
  tape : w'.tape = w.tape
  output : w'.output = w.output
  size : w.heap.size ≤ w'.heap.size
  block : ∀ k, k < w.heap.size → k ∉ B → w'.heap[k]? = w.heap[k]?
theorem Only.of_below {B : List Nat} {w w' : World} (h : Below w.heap.size w w') : Only B w w' := ⟨h.os, h.tape, h.output, h.size, fun k hk _ => h.block k hk⟩
theorem Only.of_grown {B : List Nat} {w w' : World} {row : Option Nat} (h : w.grownBy w' row) (hr : ∀ r, row = some r → r ∈ B) : Only B w w' := ⟨h.os, h.tape, h.output, h.size, fun k hk hn => h.block k hk (fun e => hn (hr k e.symm))⟩
/-- Behind one another, where the second's blocks are the first's, or new. -/
theorem Only.trans {B B' : List Nat} {x y z : World} (h : Only B x y) (k : Only B' y z) (hB : ∀ r ∈ B', r ∈ B ∨ x.heap.size ≤ r) : Only B x z :=
  ⟨k.os.trans h.os, k.tape.trans h.tape, k.output.trans h.output, Nat.le_trans h.size k.size, fun i hi hn => (k.block i (Nat.lt_of_lt_of_le hi h.size) (fun hm => by
    rcases hB i hm with h' | h'
    · exact hn h'
    · omega)).trans (h.block i hi hn)⟩
theorem Only.below {B : List Nat} {w w' : World} {n : Nat} (h : Only B w w') (hn : n ≤ w.heap.size) (hB : ∀ r ∈ B, n ≤ r) : Below n w w' :=
  ⟨h.os, h.tape, h.output, h.size, fun k hk => h.block k (by omega) (fun hm => by have := hB k hm; omega)⟩
/-- A map's value, as it is. -/
def Rid (v : Value) : Option (DataW Value × List MemPlace) := some (.held v, [])
/-- Block b is a map with n keys; m tells what it holds. -/
def MapIs (W : World) (k : TypeId) (b : Nat) (m : Value → Option Value) (n : Nat) : Prop :=
  ∃ D, W.ownsMap Tryz.prog k Rid b n D ∧ Maps.size D = n ∧ ∀ key kl, keyOf Tryz.prog k key = some kl →
    (∀ v, m key = some v → Maps.has D kl = true ∧ ∀ z, D.atKey kl z = .held v) ∧ (m key = none → Maps.has D kl = false)
open Classical in
noncomputable def upd (m : Value → Option Value) (key v : Value) : Value → Option Value := fun x => if x = key then some v else m x
open Classical in
theorem tight {W : World} {k : TypeId} {b n : Nat} {D : DataW Value} (h : W.ownsMap Tryz.prog k Rid b n D) : W.ownsMap Tryz.prog k Rid b (Maps.size D) D := by
  obtain ⟨es, clock, hb, F, hs, rfl⟩ := h
  refine ⟨es, clock, hb, F, ?_, rfl⟩
  simp [Maps.size, length_sorted]
theorem MapIs.made (w : World) (k : TypeId) : MapIs (w.alloc (.map #[] 0)) k w.heap.size (fun _ => none) 0 :=
  ⟨_, World.ownsMap_made w _ _ _, rfl, fun _ _ _ => ⟨fun v h => (by cases h), fun _ => rfl⟩⟩
section
variable {W W' : World} {k : TypeId} {b n : Nat} {m : Value → Option Value}
theorem MapIs.lt (h : MapIs W k b m n) : b < W.heap.size := by
  obtain ⟨D, h1, _⟩ := h
  exact h1.lt
theorem MapIs.same (h : MapIs W k b m n) (hb : W'.heap[b]? = W.heap[b]?) : MapIs W' k b m n := by
  obtain ⟨D, ⟨es, clock, hb', r⟩, h2⟩ := h
  exact ⟨D, ⟨es, clock, hb.trans hb', r⟩, h2⟩
theorem MapIs.look (h : MapIs W k b m n) (K : Keyed Tryz.prog k) {t e : TypeId} (ht : Tryz.prog.underlying t = some (.map k e)) {z : Value} (hz : (zeroValue e).run Tryz.prog W = .ok z W) {key : Value} {kl : Lit} (hkey : keyOf Tryz.prog k key = some kl) :
    (∀ v, m key = some v → (Instr.lookup t (.map (some b)) key true).run Tryz.prog W = .ok (.tuple #[v, .bool true]) W ∧ (Instr.lookup t (.map (some b)) key false).run Tryz.prog W = .ok v W) ∧
    (m key = none → (Instr.lookup t (.map (some b)) key true).run Tryz.prog W = .ok (.tuple #[z, .bool false]) W ∧ (Instr.lookup t (.map (some b)) key false).run Tryz.prog W = .ok z W) := by
  obtain ⟨D, h1, h2, h3⟩ := h
  obtain ⟨v1, p1, r1, q1⟩ := h1.look_ok K ht hz (zd := .held z) (zp := []) rfl hkey
  obtain ⟨v2, p2, r2, q2⟩ := h1.lookup K ht hz (zd := .held z) (zp := []) rfl hkey
  obtain ⟨g1, g2⟩ := h3 key kl hkey
  simp only [Rid, Option.some.injEq, Prod.mk.injEq] at q1 q2
  refine ⟨fun v hv => ?_, fun hn => ?_⟩
  · obtain ⟨a1, a2⟩ := g1 v hv
    rw [a2] at q1 q2
    have e1 := DataW.held.inj q1.1
    have e2 := DataW.held.inj q2.1
    rw [a1, e1] at r1
    rw [e2] at r2
    exact ⟨r1, r2⟩
  · have a1 := g2 hn
    rw [Maps.atKey_of_not_has a1] at q1 q2
    have e1 := DataW.held.inj q1.1
    have e2 := DataW.held.inj q2.1
    rw [a1, e1] at r1
    rw [e2] at r2
    exact ⟨r1, r2⟩
theorem MapIs.put (h : MapIs W k b m n) (K : Keyed Tryz.prog k) {t e : TypeId} (ht : Tryz.prog.underlying t = some (.map k e)) (hn : n < maxLen) {key : Value} {kl : Lit} (hkey : keyOf Tryz.prog k key = some kl) (v : Value) :
    ∃ W', (Instr.mapUpdate t (.map (some b)) key v).run Tryz.prog W = .ok () W' ∧ MapIs W' k b (upd m key v) (match m key with | some _ => n | none => n + 1) ∧ W.grownBy W' (some b) := by
  obtain ⟨D, h1, h2, h3⟩ := h
  obtain ⟨W', r1, r2, r3⟩ := h1.update K ht hn hkey (val := v) (d := .held v) (ps := []) rfl
  obtain ⟨g1, g2⟩ := h3 key kl hkey
  have hsz : Maps.size (D.put kl (.held v)) = match m key with | some _ => n | none => n + 1 := by
    rw [Maps.size_put (h1.tidy K)]
    cases hm : m key with
    | none => rw [g2 hm, h2]; rfl
    | some u => rw [(g1 u hm).1, h2]; rfl
  have r2' := tight r2
  rw [hsz] at r2'
  refine ⟨W', r1, ⟨_, r2', hsz, fun key' kl' hk' => ?_⟩, r3⟩
  by_cases hkk : key' = key
  · subst hkk
    rw [hkey] at hk'
    cases hk'
    refine ⟨fun u hu => ?_, fun hu => ?_⟩
    · simp [upd] at hu
      subst hu
      exact ⟨Maps.has_put_same h1.isMap (K.key hkey) _, fun z => Maps.atKey_put_same h1.isMap (K.key hkey) _ z⟩
    · simp [upd] at hu
  · have hne : kl' ≠ kl := fun e => hkk (K.inj hk' (e ▸ hkey))
    obtain ⟨f1, f2⟩ := h3 key' kl' hk'
    refine ⟨fun u hu => ?_, fun hu => ?_⟩
    · rw [upd, if_neg hkk] at hu
      rw [Maps.has_put_other hne]
      exact ⟨(f1 u hu).1, fun z => by rw [Maps.atKey_put_other hne]; exact (f1 u hu).2 z⟩
    · rw [upd, if_neg hkk] at hu
      rw [Maps.has_put_other hne]
      exact f2 hu
end
end
section
open Go.RowKit
/-- The contract of term.Same at x. -/
def SameAt (x : T) : Prop := ∀ (y : T) (sx sy : Value) (w : World), ArgsAt w sx x.args → ArgsAt w sy y.args →
    Calls Tryz.prog 48 #[tval x sx, tval y sy] w fun e w' => e = .returned (.bool (same x y)) ∧ Below w.heap.size w w'
open Classical in
/-- Are both lists the same? -/
noncomputable def sames (l m : List T) : Bool := decide (l = m)
theorem sames_iff {x y : List T} : sames x y = true ↔ x = y := by simp [sames]
theorem sames_false {x y : List T} : sames x y = false ↔ x ≠ y := by simp [sames]
theorem eqf_len (l m : List T) (a b : Option Addr) (c d : Nat) (f : Value) (w : World) (h : l.length ≠ m.length) :
    Calls Tryz.prog 90 #[.slice a l.length c, .slice b m.length d, f] w fun e w' => e = .returned (.bool (sames l m)) ∧ Below w.heap.size w w' := by
  have HS : Hid (sames l m = false) := sames_false.2 fun e => h (by rw [e])
  have h3 : ((l.length : Int) != (m.length : Int)) = true := by rw [bne_iff_ne]; omega
  clear h
  go_enter Tryz.func90, Tryz.ntmps90
  go_wp2
  go_ret
  exact ⟨ret_bool (by rw [HS]), Below.refl _ _⟩
theorem eqf_loop (l m : List T) (ih : ∀ a ∈ l, SameAt a) (a b : Option Addr) (c d : Nat) (w : World) (ha : ArgsAt w (.slice a l.length c) l) (hb : ArgsAt w (.slice b m.length d) m) (hc : l.length ≤ 9223372036854775807) (h : l.length = m.length) :
    Calls Tryz.prog 90 #[.slice a l.length c, .slice b m.length d, .func (.func 48) #[] #[]] w fun e w' => e = .returned (.bool (sames l m)) ∧ Below w.heap.size w w' := by
  have HE : Hid (l.length = m.length) := h
  have h3 : ((l.length : Int) != (m.length : Int)) = false := by rw [bne_eq_false_iff_eq]; omega
  clear h
  go_enter Tryz.func90, Tryz.ntmps90
  go_wp2
  go_loopw [17] (fun i wr => ∃ k : Nat, k ≤ l.length ∧ i = .int .i64 k ∧ Hid (l.take k = m.take k) ∧ Below w.heap.size w wr) (fun i _ => l.length - (intOf i).toNat)
  case atStart => exact ⟨0, Nat.zero_le _, rfl, rfl, Below.refl _ _⟩
  case round =>
    obtain ⟨k, hk, rfl, hall, hw⟩ := hrel
    have haw := ArgsAt.keep hw (Nat.le_refl _) ha
    have hbw := ArgsAt.keep hw (Nat.le_refl _) hb
    by_cases hlt : k < l.length
    · have hlt' : k < m.length := HE ▸ hlt
      obtain ⟨ba, oa, s, rfl, hba, a0, a1, a2, hs⟩ := haw.nth hlt
      obtain ⟨bb, ob, s', rfl, hbb, b0, b1, b2, hs'⟩ := hbw.nth hlt'
      obtain ⟨aa, cs, rfl, _, _⟩ := hs.slice
      obtain ⟨aa', cs', rfl, _, _⟩ := hs'.slice
      have hbx : Below wr.heap.size wr (tbox2 wr l[k] (.slice aa l[k].args.length cs) m[k] (.slice aa' m[k].args.length cs')) := below_box2 wr _ _
      have ih' := (ih l[k] (List.getElem_mem hlt) m[k] _ _ _ (ArgsAt.keep hbx (Nat.le_refl _) hs) (ArgsAt.keep hbx (Nat.le_refl _) hs')).mono (R' := fun e w' => e = .returned (.bool (same l[k] m[k])) ∧ Below w.heap.size w w') (fun e w' h => ⟨h.1, hw.trans ((hbx.trans (h.2.mono (by simp; omega))).mono hw.size)⟩)
      have b0' := kc (below_box wr (tbox l[k] (.slice aa l[k].args.length cs))) hbb b0
      have b1' := kc (below_box wr (tbox l[k] (.slice aa l[k].args.length cs))) hbb b1
      have b2' := kc (below_box wr (tbox l[k] (.slice aa l[k].args.length cs))) hbb b2
      clear ih ha hb haw hbw hbx hs hs'
      cases hsh : same l[k] m[k]
      · rw [hsh] at ih'
        have Hf : Hid (sames l m = false) := by
          refine sames_false.2 fun e => same_false.1 hsh ?_
          subst e
          rfl
        clear hsh
        go_wp2_with (go_at_call 48; refine ih'.mono ?_; rintro e w' ⟨rfl, hb'⟩)
        go_ret
        exact ⟨ret_bool (by rw [Hf]), hb'⟩
      · rw [hsh] at ih'
        have Hf : Hid (l.take (k + 1) = m.take (k + 1)) := list_take_eq HE hlt hall (same_iff.1 hsh)
        clear hsh
        go_wp2_with (go_at_call 48; refine ih'.mono ?_; rintro e w' ⟨rfl, hb'⟩)
        go_roundw
        case rel => exact ⟨k + 1, by omega, by go_num, Hf, hb'⟩
        case measure => simp [intOf]; omega
    · have Hf : Hid (sames l m = true) := by
        refine sames_iff.2 ?_
        have hall' : l.take k = m.take k := hall
        have hl : l.length = m.length := HE
        rw [List.take_of_length_le (by omega), List.take_of_length_le (by omega)] at hall'
        exact hall'
      go_wp2
      go_ret
      exact ⟨ret_bool (by rw [Hf]), hw⟩
theorem eqf_any (l m : List T) (ih : ∀ a ∈ l, SameAt a) (sl sm : Value) (w : World) (ha : ArgsAt w sl l) (hb : ArgsAt w sm m) :
    Calls Tryz.prog 90 #[sl, sm, .func (.func 48) #[] #[]] w fun e w' => e = .returned (.bool (sames l m)) ∧ Below w.heap.size w w' := by
  obtain ⟨a, c, rfl, hc, hm⟩ := ha.slice
  obtain ⟨b, d, rfl, hd, hm'⟩ := hb.slice
  by_cases hl : l.length = m.length
  · exact eqf_loop l m ih a b c d w ha hb (by omega) hl
  · exact eqf_len l m a b c d _ w hl
theorem same_of {x y : T} (h1 : x.v = y.v) (h2 : x.fn = y.fn) : same x y = sames x.args y.args := by
  cases h : sames x.args y.args
  · rw [same_false]
    intro e
    rw [sames_false] at h
    exact h (by rw [e])
  · exact same_iff.2 (same_ext h1 h2 (sames_iff.1 h))
theorem tsame_no (x y : T) (a b : Option Addr) (n c m d : Nat) (w : World) (h : x.v ≠ y.v ∨ x.fn ≠ y.fn) :
    Calls Tryz.prog 48 #[tval x (.slice a n c), tval y (.slice b m d)] w fun e w' => e = .returned (.bool (same x y)) ∧ Below w.heap.size w w' := by
  have HS : Hid (same x y = false) := same_false.2 fun e => by rcases h with h | h <;> exact h (by rw [e])
  by_cases hv : x.v = y.v
  · have h1 : (x.v == y.v) = true := by simpa using hv
    have h2 : ¬ x.fn.toList = y.fn.toList := fun e => by
      rcases h with h | h
      · exact h hv
      · exact h (ba_toList_inj.1 e)
    clear h hv
    go_enter Tryz.func48, Tryz.ntmps48
    go_wp2
    go_ret
    exact ⟨ret_bool (by rw [HS]), below_box2 w _ _⟩
  · have h1 : (x.v == y.v) = false := by simpa using hv
    clear h hv
    go_enter Tryz.func48, Tryz.ntmps48
    go_wp2
    go_ret
    exact ⟨ret_bool (by rw [HS]), below_box2 w _ _⟩
theorem tsame_yes (x y : T) (ih : ∀ a ∈ x.args, SameAt a) (a b : Option Addr) (c d : Nat) (w : World) (ha : ArgsAt w (.slice a x.args.length c) x.args) (hb : ArgsAt w (.slice b y.args.length d) y.args) (hv : x.v = y.v) (hf : x.fn = y.fn) :
    Calls Tryz.prog 48 #[tval x (.slice a x.args.length c), tval y (.slice b y.args.length d)] w fun e w' => e = .returned (.bool (same x y)) ∧ Below w.heap.size w w' := by
  have HS : Hid (same x y = sames x.args y.args) := same_of hv hf
  have h1 : (x.v == y.v) = true := by simpa using hv
  have h2 : x.fn.toList = y.fn.toList := ba_toList_inj.2 hf
  clear hv hf
  have hbx : Below w.heap.size w (tbox2 w x (.slice a x.args.length c) y (.slice b y.args.length d)) := below_box2 w _ _
  have ih' := (eqf_any x.args y.args ih _ _ _ (ArgsAt.keep hbx (Nat.le_refl _) ha) (ArgsAt.keep hbx (Nat.le_refl _) hb)).mono (R' := fun e w' => e = .returned (.bool (sames x.args y.args)) ∧ Below w.heap.size w w') (fun e w' h => ⟨h.1, hbx.trans (h.2.mono (by simp; omega))⟩)
  clear ih ha hb hbx
  go_enter Tryz.func48, Tryz.ntmps48
  go_wp2_with (go_at_call 90; refine ih'.mono ?_; rintro e w' ⟨rfl, hb'⟩)
  go_ret
  exact ⟨ret_bool (by rw [HS]), hb'⟩
theorem tsame_any (x : T) : SameAt x := by
  induction x using T.ind with
  | _ x ih =>
    intro y sx sy w hx hy
    obtain ⟨a, c, rfl, hc, hm⟩ := hx.slice
    obtain ⟨b, d, rfl, hd, hm'⟩ := hy.slice
    by_cases h : x.v ≠ y.v ∨ x.fn ≠ y.fn
    · exact tsame_no x y a b _ c _ d w h
    · refine tsame_yes x y ih a b c d w hx hy ?_ ?_
      · exact Classical.not_not.1 fun e => h (.inl e)
      · exact Classical.not_not.1 fun e => h (.inr e)
end
section
open Go.ChangeShapes Go.WideShapes Go.ChangeAt Go.RowKit
theorem Tryz.cells3 : Tryz.prog.cellsOf 3 = 1 := by kernel_rfl
theorem Tryz.cells9 : Tryz.prog.cellsOf 9 = 1 := by kernel_rfl
theorem Tryz.cells23 : Tryz.prog.cellsOf 22 = 1 := by kernel_rfl
theorem Tryz.cells25 : Tryz.prog.cellsOf 24 = 3 := by kernel_rfl
theorem addr_add (b o j : Nat) : (⟨b, o, none⟩ : Addr).add j = ⟨b, o + j, none⟩ := by unfold Addr.add; split <;> simp_all
theorem lt_of_cell {W : World} {a : Addr} {v : Value} (h : W.cell? a = some v) : a.block < W.heap.size := by
  refine Classical.byContradiction fun hn => ?_
  have hs := World.cell?_spot h
  obtain ⟨b, o, s⟩ := a
  simp only at hs hn
  subst hs
  have : W.heap[b]? = none := Array.getElem?_eq_none (by omega)
  simp [World.cell?, this] at h
theorem list3 {cs : List Value} (h : cs.length = 3) : ∃ c0 c1 c2, cs = [c0, c1, c2] := by
  match cs, h with
  | [c0, c1, c2], _ => exact ⟨c0, c1, c2, rfl⟩
theorem struct24 {H : Type} {enc : TypeId × Value → H} {W : World} {fuel : Nat} {cs : List Value} {x : DataW H × List MemPlace}
    (h : DataW.trod enc Tryz.prog W 0 (fun _ => true) true fuel 24 cs = some x) : ∃ (v : Int) (fn : ByteArray) (sl : Value) (n : Nat) (y0 y1 y2 : DataW H × List MemPlace), fuel = n + 1 ∧ cs = [.int .i64 v, .string fn, sl] ∧ (Lit.int .i64 v).wf = true ∧ fn.size ≤ maxLen ∧ DataW.trod enc Tryz.prog W 0 (fun _ => true) true n 22 [sl] = some y2 ∧ x = (.agg [y0.1, y1.1, y2.1], y0.2 ++ (y1.2 ++ y2.2)) ∧ y0.1 = .lit (.int .i64 v) ∧ y1.1 = .lit (.string fn.data.toList) := by
  obtain ⟨xs, n, rfl, hx, hlen, hxs, hf⟩ := DataW.trod_struct Tryz.underlying24 h
  rw [Tryz.cells25] at hlen
  obtain ⟨c0, c1, c2, rfl⟩ := list3 hlen
  match xs, hxs, hx, hf with
  | [y0, y1, y2], _, hx, hf =>
    have t0 : DataW.trod enc Tryz.prog W 0 (fun _ => true) true n 3 (List.take (Tryz.prog.cellsOf 3) (List.drop 0 [c0, c1, c2])) = some y0 := hf 0 _ rfl
    have t1 : DataW.trod enc Tryz.prog W 0 (fun _ => true) true n 9 (List.take (Tryz.prog.cellsOf 9) (List.drop 1 [c0, c1, c2])) = some y1 := hf 1 _ rfl
    have t2 : DataW.trod enc Tryz.prog W 0 (fun _ => true) true n 22 (List.take (Tryz.prog.cellsOf 22) (List.drop 2 [c0, c1, c2])) = some y2 := hf 2 _ rfl
    rw [Tryz.cells3] at t0
    rw [Tryz.cells9] at t1
    rw [Tryz.cells23] at t2
    have t0' : DataW.trod enc Tryz.prog W 0 (fun _ => true) true n 3 [c0] = some y0 := t0
    have t1' : DataW.trod enc Tryz.prog W 0 (fun _ => true) true n 9 [c1] = some y1 := t1
    have t2' : DataW.trod enc Tryz.prog W 0 (fun _ => true) true n 22 [c2] = some y2 := t2
    obtain ⟨v, e0, z0, w0⟩ := DataW.trod_int Tryz.underlying3 t0'
    obtain ⟨s, e1, z1, w1⟩ := DataW.trod_string Tryz.underlying9 t1'
    simp at e0 e1
    subst e0 e1
    exact ⟨v, s, c2, n, y0, y1, y2, rfl, rfl, w0, w1, t2', by rw [hx]; simp, by rw [z0], by rw [z1]⟩
end
section
open Go.ChangeShapes Go.WideShapes Go.ChangeAt Go.RowKit
theorem sum_bulk {H : Type} : ∀ (es : List (DataW H)) (g : Nat → Int), (∀ i (h : i < es.length), g i ≤ (Rows.uptoBulk es[i] : Int)) → ((List.range es.length).map g).sum ≤ (Rows.uptoBulkAll es : Int)
  | [], _, _ => by simp [Rows.uptoBulkAll]
  | d :: r, g, h => by
    have ih := sum_bulk r (fun i => g (i + 1)) (fun i hi => h (i + 1) (by simpa using hi))
    have h0 : g 0 ≤ (Rows.uptoBulk d : Int) := h 0 (by simp)
    have e : (List.range (d :: r).length).map g = g 0 :: (List.range r.length).map (fun i => g (i + 1)) := by
      rw [List.length_cons, List.range_succ_eq_map, List.map_cons, List.map_map]
      rfl
    rw [e, List.sum_cons, Rows.uptoBulkAll]
    omega
end
