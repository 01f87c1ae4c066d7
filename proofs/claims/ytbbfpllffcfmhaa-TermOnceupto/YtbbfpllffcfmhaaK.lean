/-
  term.Size, term.Depth.
-/
import Derived.Test.YtbbfpllffcfmhaaJ
namespace Go.Proofs.Ytbbfpllffcfmhaa
open Go.RowKit Go.Shelf

attribute [local go_sem] Oper.semAt_some

/-- What a loop over the parts keeps in one box. -/
structure Inv (w : World) (B : Nat) (ty : TypeId) (val : List Part → Value) (E : List Nat) (pre : List Part) (W : World) : Prop where
  box : Boxed W B ty (val pre)
  out : B ∉ E
  low : ∀ r ∈ E, w.heap.size ≤ r ∧ r < W.heap.size
  bel : Below w.heap.size w W

theorem Inv.abide (w : World) (B : Nat) (ty : TypeId) (val : List Part → Value) : Abide (Inv w B ty val) := by
  intro E E' s W W' row h hg hr hE
  have hlt := h.box.lt
  refine ⟨h.box.kept hg (fun e => h.out (hr B e.symm)), fun hb => ?_, fun r hr' => ?_, h.bel.trans ⟨hg.os, hg.tape, hg.output, hg.size, fun k hk => hg.block k (Nat.lt_of_lt_of_le hk h.bel.size) (fun e => by have := h.low k (hr k e.symm); omega)⟩⟩
  · rcases hE B hb with hb | hb
    · exact h.out hb
    · omega
  · rcases hE r hr' with h' | h'
    · exact ⟨(h.low r h').1, Nat.lt_of_lt_of_le (h.low r h').2 hg.size⟩
    · exact ⟨Nat.le_trans h.bel.size h'.1, h'.2⟩

theorem Inv.store {w : World} {B : Nat} {ty : TypeId} {val : List Part → Value} {E : List Nat} {pre : List Part} {W : World} (h : Inv w B ty val E pre W) (hB : w.heap.size ≤ B) (v : Value) : Kept w.heap.size E W (W.setCell ⟨B, 0, none⟩ v) ∧ ∀ s, v = val s → Inv w B ty val E s (W.setCell ⟨B, 0, none⟩ v) := by
  have hb : Below w.heap.size W (W.setCell ⟨B, 0, none⟩ v) := (Below.refl _ _).setCell (p := ⟨B, 0, none⟩) hB _
  have g := grownBy_setCell' W B v
  have hs : ∀ s, v = val s → Inv w B ty val E s (W.setCell ⟨B, 0, none⟩ v) := fun s e => ⟨e ▸ h.box.set v, h.out, fun r hr => ⟨(h.low r hr).1, Nat.lt_of_lt_of_le (h.low r hr).2 g.size⟩, h.bel.trans hb⟩
  refine ⟨⟨hb, fun r hr => ?_⟩, hs⟩
  by_cases hlt : r < W.heap.size
  · exact g.block r hlt (fun e => h.out (Option.some.inj e ▸ hr))
  · have h2 : (W.setCell ⟨B, 0, none⟩ v).heap.size = W.heap.size := by simp
    rw [Array.getElem?_eq_none (by omega), Array.getElem?_eq_none (by omega)]

theorem size_parts (t : T) : ∀ pl, ((t.parts pl).length : Int) = t.size := by
  induction t using T.ind with
  | _ t ih =>
    intro pl
    have h : ∀ (l : List T) (i : Nat), (∀ a ∈ l, a ∈ t.args) → ((T.parts.kids l pl i).length : Int) = (l.map T.size).sum := by
      intro l
      induction l with
      | nil => intro i _; rfl
      | cons a r ihl =>
        intro i hm
        have h1 := ih a (hm a (by simp)) (pl ++ [(i : Int)])
        have h2 := ihl (i + 1) (fun b hb => hm b (by simp [hb]))
        simp only [T.parts.kids, List.length_append, List.map_cons, List.sum_cons]
        omega
    rw [t.parts_eq, t.size_eq, List.length_cons, ← h t.args 0 (fun _ h => h)]
    omega

theorem cnt_step (pre : List Part) (x : Part) : wrap64 ((pre ++ [x]).length : Int) = wrap64 (wrap64 (pre.length : Int) + 1) := by
  have h : ((pre ++ [x]).length : Int) = (pre.length : Int) + 1 := by simp
  rw [h]
  simp only [wrap64]
  omega

set_option maxRecDepth 100000 in
set_option maxHeartbeats 2000000 in
theorem tsize_any (t : T) (sl : Value) (w : World) (ha : ArgsAt w sl t.args) (hlen : ∀ q ∈ t.parts [], q.1.length ≤ 1048576) :
    Calls Try.prog 10 #[tval t sl] w fun e w' => e = .returned (.int .i64 (wrap64 t.size)) ∧ Below w.heap.size w w' := by
  refine (callsIn_wide (n := 9)).1 ?_
  obtain ⟨a, c, rfl, hc, hm⟩ := ha.slice
  obtain ⟨W0, hW0⟩ : ∃ W0, ((w.alloc (tbox t (.slice a t.args.length c))).alloc (.cells #[.int .i64 0] 3)).alloc (tbox t (.slice a t.args.length c)) = W0 := ⟨_, rfl⟩
  have hsz : W0.heap.size = w.heap.size + 3 := by rw [← hW0]; simp
  have hbel : Below w.heap.size w W0 := by rw [← hW0]; exact (((Below.refl _ _).alloc (Nat.le_refl _) _).alloc (by simp) _).alloc (by simp; omega) _
  have hB1 : Boxed W0 (w.heap.size + 1) 3 (.int .i64 0) := by
    have := (Boxed.new (w.alloc (tbox t (.slice a t.args.length c))) 3 (.int .i64 0)).alloc (tbox t (.slice a t.args.length c))
    rw [World.size_alloc] at this
    rw [← hW0]
    exact this
  have hB2 : W0.heap[w.heap.size + 1 + 1]? = some (.cells [Value.int .i64 t.v, .string t.fn, .slice a t.args.length c].toArray 24 (0, 0)) := by
    have := (MapKept.heap_alloc ((w.alloc (tbox t (.slice a t.args.length c))).alloc (.cells #[.int .i64 0] 3)) (tbox t (.slice a t.args.length c))).1
    rw [World.size_alloc, World.size_alloc] at this
    rw [← hW0]
    exact this
  have hR : Hid (wrap64 ((t.parts []).length : Int) = wrap64 t.size) := by show wrap64 _ = _; rw [size_parts]
  refine callsIn_of_wp_marks Try.func10 rfl trivial ?_ rfl
  simp only [Try.ntmps10, List.size_toArray, List.length_cons, List.length_nil, Nat.reduceAdd, Nat.reduceSub, Array.replicate_succ, Array.replicate_zero, List.push_toArray, List.append_toArray, List.nil_append, List.cons_append]
  gi_wp2_with (refine ⟨trivial, ?_⟩; gi_at_call 32; refine (callsIn_wide.2 (parts_any _ _ _)).mono ?_; rintro e w' ⟨rfl, rfl⟩)
  try rw [hW0]
  clear hW0
  refine range_own (n := W0.heap.size) (w0 := w) (all := t.parts []) (gf := 57) (lb := #[.pointer (some ⟨w.heap.size + 1 + 1, 0, none⟩)]) 9 rfl (enters_of Try.func57 (by kernel_rfl) rfl) rfl
    (fun W hW => iter_any w W0.heap.size (w.heap.size + 1 + 1) t _ W (hbel.trans (hW.mono (by omega))) (by omega) hW.size ((hW.block _ (by omega)).trans hB2) ha hlen)
    (Inv w (w.heap.size + 1) 3 (fun pre => .int .i64 (wrap64 pre.length))) (fun _ _ _ => False) (Inv.abide _ _ _ _) (fun _ _ _ _ _ _ h => h.elim)
    ⟨by simpa [wrap64] using hB1, by simp, by simp, hbel⟩ (by omega) (fun _ _ _ h r hr => (h.low r hr).2)
    (fun x y => { tmps := #[tval t (.slice a t.args.length c), .pointer (some ⟨w.heap.size, 0, none⟩), .int .i64 0, .pointer (some ⟨w.heap.size + 1, 0, none⟩), .agg #[.int .i64 t.v, .string t.fn, .slice a t.args.length c], .func (.func 57) #[] #[.pointer (some ⟨w.heap.size + 1 + 1, 0, none⟩)], x, y, undef, undef, undef], defers := [] }) ?assign ?body ?done ?stop
  case assign =>
    intro l x y W K hK
    gi_wp2
    simpa using hK
  case body =>
    rintro l E pre pl p pv sl W hi hl hw hpv hsl hrest
    have hc := hi.box.cell
    have hf := hi.box.frozen
    gi_wp2
    obtain ⟨h1, h2⟩ := hi.store (by omega) (.int .i64 (wrap64 (wrap64 (pre.length : Int) + 1)))
    exact ⟨h1, h2 _ (by rw [cnt_step])⟩
  case done =>
    rintro D E W hD hi hDE hK
    have hc := hi.box.cell
    gi_wp2
    refine ⟨by simp, .inl ⟨_, _, rfl, run_takeDeferred hK, ?_⟩⟩
    refine ⟨_, results_tmp rfl _ _ _, ?_, hi.bel.trans ⟨rfl, rfl, rfl, by simp, fun k hk => World.putObj_heap_other (by omega)⟩⟩
    show Ending.returned (Value.int .i64 (wrap64 ((t.parts []).length : Int))) = _
    exact ret_i64 hR
  case stop =>
    rintro D E pre W _ h
    exact h.elim

/-- The depth. -/
def T.depth : T → Int
  | .mk _ _ args => dps args 0 + 1
where dps : List T → Int → Int
  | [], m => m
  | a :: r, m => dps r (max m (T.depth a))

theorem T.depth_eq (t : T) : t.depth = (t.args.map T.depth).foldl max 0 + 1 := by
  have h : ∀ (l : List T) (m : Int), T.depth.dps l m = (l.map T.depth).foldl max m := by
    intro l
    induction l with
    | nil => intro m; rfl
    | cons a r ih => intro m; simp [T.depth.dps, ih]
  cases t with
  | mk v fn args => simp [T.depth, T.args, h]

/-- The depth, by the places. -/
def dm (l : List Part) : Int := l.foldl (fun m q => max m ((q.1.length : Int) + 1)) 0
theorem dm_snoc (l : List Part) (q : Part) : dm (l ++ [q]) = max (dm l) ((q.1.length : Int) + 1) := by simp [dm]

theorem fold_shift (c : Int) : ∀ (ds : List Int) (m x : Int), 0 ≤ x → ds.foldl (fun m d => max m (c + d)) (max m (c + x)) = max m (c + ds.foldl max x)
  | [], _, _, _ => rfl
  | d :: r, m, x, hx => by
    have h : max (max m (c + x)) (c + d) = max m (c + max x d) := by omega
    simp only [List.foldl_cons]
    rw [h]
    exact fold_shift c r m (max x d) (by omega)

theorem fold_parts (t : T) : ∀ (pl : List Int) (m : Int), (t.parts pl).foldl (fun m q => max m ((q.1.length : Int) + 1)) m = max m (pl.length + t.depth) := by
  induction t using T.ind with
  | _ t ih =>
    intro pl m
    have h : ∀ (l : List T) (i : Nat) (m : Int), (∀ a ∈ l, a ∈ t.args) → (T.parts.kids l pl i).foldl (fun m q => max m ((q.1.length : Int) + 1)) m = (l.map T.depth).foldl (fun m d => max m ((pl.length : Int) + 1 + d)) m := by
      intro l
      induction l with
      | nil => intro i m _; rfl
      | cons a r ihl =>
        intro i m hm
        simp only [T.parts.kids, List.foldl_append, List.map_cons, List.foldl_cons]
        rw [ih a (hm a (by simp)) (pl ++ [(i : Int)]) m, ihl (i + 1) _ (fun b hb => hm b (by simp [hb]))]
        congr 2
        simp
    rw [t.parts_eq, List.foldl_cons, h t.args 0 _ (fun _ h => h), t.depth_eq]
    have := fold_shift ((pl.length : Int) + 1) (t.args.map T.depth) m 0 (Int.le_refl _)
    simp only [Int.add_zero] at this
    rw [this]
    omega

theorem foldl_max_ge : ∀ (ds : List Int) (m : Int), m ≤ ds.foldl max m
  | [], _ => Int.le_refl _
  | d :: r, m => Int.le_trans (by omega) (foldl_max_ge r (max m d))
theorem foldl_max_mem : ∀ (ds : List Int) (m : Int) (d : Int), d ∈ ds → d ≤ ds.foldl max m
  | [], _, _, h => by cases h
  | x :: r, m, d, h => by
    rcases List.mem_cons.1 h with rfl | h
    · exact Int.le_trans (by omega) (foldl_max_ge r (max m d))
    · exact foldl_max_mem r _ d h
theorem depth_pos (t : T) : 1 ≤ t.depth := by
  rw [t.depth_eq]
  have := foldl_max_ge (t.args.map T.depth) 0
  omega

theorem dm_parts (t : T) : dm (t.parts []) = t.depth := by
  unfold dm
  rw [fold_parts t [] 0]
  have := depth_pos t
  simp
  omega

theorem depthW_small (t : T) : t.depth ≤ 9223372036854775807 → t.depthW = t.depth := by
  induction t using T.ind with
  | _ t ih =>
    intro hd
    rw [t.depth_eq] at hd
    have hm : t.args.map T.depthW = t.args.map T.depth := List.map_congr_left fun a ha => ih a ha (by
      have := foldl_max_mem (t.args.map T.depth) 0 a.depth (List.mem_map_of_mem ha)
      omega)
    have := foldl_max_ge (t.args.map T.depth) 0
    rw [t.depthW_eq, t.depth_eq, hm]
    simp only [wrap64]
    omega

/-- All places are short: no list of them is great. -/
def Short (t : T) : Prop := ∀ q ∈ t.parts [], q.1.length ≤ 1048576

theorem dm_ge (l : List Part) : 0 ≤ dm l ∧ ((∀ q ∈ l, q.1.length ≤ 1048576) → dm l ≤ 1048577) := by
  have h : ∀ (l : List Part) (m : Int), m ≤ l.foldl (fun m q => max m ((q.1.length : Int) + 1)) m ∧ (m ≤ 1048577 → (∀ q ∈ l, q.1.length ≤ 1048576) → l.foldl (fun m q => max m ((q.1.length : Int) + 1)) m ≤ 1048577) := by
    intro l
    induction l with
    | nil => intro m; exact ⟨Int.le_refl _, fun h _ => h⟩
    | cons q r ih =>
      intro m
      obtain ⟨h1, h2⟩ := ih (max m ((q.1.length : Int) + 1))
      refine ⟨Int.le_trans (by omega) h1, fun hm hq => h2 ?_ (fun x hx => hq x (by simp [hx]))⟩
      have := hq q (by simp)
      omega
  exact ⟨(h l 0).1, fun hq => (h l 0).2 (by omega) hq⟩

theorem PlaceV.shape {n : Nat} {E : List Nat} {W : World} {pv : Value} {pl : List Int} (h : PlaceV n E W pv pl) : ∃ a c, pv = .slice a pl.length c := by
  rcases h.1.2 with ⟨rfl, h0⟩ | ⟨g, cap, cur, rfl, _⟩
  · exact ⟨none, 0, by rw [h0]⟩
  · exact ⟨_, _, rfl⟩

set_option maxRecDepth 100000 in
set_option maxHeartbeats 2000000 in
theorem tdepth_any (t : T) (sl : Value) (w : World) (ha : ArgsAt w sl t.args) (hlen : Short t) :
    Calls Try.prog 12 #[tval t sl] w fun e w' => e = .returned (.int .i64 t.depth) ∧ Below w.heap.size w w' := by
  refine (callsIn_wide (n := 9)).1 ?_
  obtain ⟨a, c, rfl, hc, hm⟩ := ha.slice
  obtain ⟨W0, hW0⟩ : ∃ W0, ((w.alloc (tbox t (.slice a t.args.length c))).alloc (.cells #[.int .i64 0] 3)).alloc (tbox t (.slice a t.args.length c)) = W0 := ⟨_, rfl⟩
  have hsz : W0.heap.size = w.heap.size + 3 := by rw [← hW0]; simp
  have hbel : Below w.heap.size w W0 := by rw [← hW0]; exact (((Below.refl _ _).alloc (Nat.le_refl _) _).alloc (by simp) _).alloc (by simp; omega) _
  have hB1 : Boxed W0 (w.heap.size + 1) 3 (.int .i64 0) := by
    have := (Boxed.new (w.alloc (tbox t (.slice a t.args.length c))) 3 (.int .i64 0)).alloc (tbox t (.slice a t.args.length c))
    rw [World.size_alloc] at this
    rw [← hW0]
    exact this
  have hB2 : W0.heap[w.heap.size + 1 + 1]? = some (.cells [Value.int .i64 t.v, .string t.fn, .slice a t.args.length c].toArray 24 (0, 0)) := by
    have := (MapKept.heap_alloc ((w.alloc (tbox t (.slice a t.args.length c))).alloc (.cells #[.int .i64 0] 3)) (tbox t (.slice a t.args.length c))).1
    rw [World.size_alloc, World.size_alloc] at this
    rw [← hW0]
    exact this
  have hR : Hid (dm (t.parts []) = t.depth) := dm_parts t
  refine callsIn_of_wp_marks Try.func12 rfl trivial ?_ rfl
  simp only [Try.ntmps12, List.size_toArray, List.length_cons, List.length_nil, Nat.reduceAdd, Nat.reduceSub, Array.replicate_succ, Array.replicate_zero, List.push_toArray, List.append_toArray, List.nil_append, List.cons_append]
  gi_wp2_with (refine ⟨trivial, ?_⟩; gi_at_call 32; refine (callsIn_wide.2 (parts_any _ _ _)).mono ?_; rintro e w' ⟨rfl, rfl⟩)
  try rw [hW0]
  clear hW0
  refine range_own (n := W0.heap.size) (w0 := w) (all := t.parts []) (gf := 57) (lb := #[.pointer (some ⟨w.heap.size + 1 + 1, 0, none⟩)]) 9 rfl (enters_of Try.func57 (by kernel_rfl) rfl) rfl
    (fun W hW => iter_any w W0.heap.size (w.heap.size + 1 + 1) t _ W (hbel.trans (hW.mono (by omega))) (by omega) hW.size ((hW.block _ (by omega)).trans hB2) ha hlen)
    (Inv w (w.heap.size + 1) 3 (fun pre => .int .i64 (dm pre))) (fun _ _ _ => False) (Inv.abide _ _ _ _) (fun _ _ _ _ _ _ h => h.elim)
    ⟨hB1, by simp, by simp, hbel⟩ (by omega) (fun _ _ _ h r hr => (h.low r hr).2)
    (fun x y => { tmps := #[tval t (.slice a t.args.length c), .pointer (some ⟨w.heap.size, 0, none⟩), .int .i64 0, .pointer (some ⟨w.heap.size + 1, 0, none⟩), x, .agg #[.int .i64 t.v, .string t.fn, .slice a t.args.length c], .func (.func 57) #[] #[.pointer (some ⟨w.heap.size + 1 + 1, 0, none⟩)], x, y, undef, undef, undef, undef, undef, undef], defers := [] }) ?assign ?body ?done ?stop
  case assign =>
    intro l x y W K hK
    gi_wp2
    simpa using hK
  case body =>
    rintro l E pre pl p pv sl W hi hl hw hpv hsl hrest
    have hc := hi.box.cell
    have hf := hi.box.frozen
    obtain ⟨pa, pc, rfl⟩ := hpv.shape
    obtain ⟨rest, hrest⟩ := hrest
    have hpl : pl.length ≤ 1048576 := hlen (pl, p) (by rw [← hrest]; simp)
    obtain ⟨d1, d2⟩ := dm_ge pre
    have d3 := d2 (fun q hq => hlen q (by rw [← hrest]; simp [hq]))
    clear d2 hlen hrest
    gi_wp2
    all_goals
      refine (fun h => ?_) (hi.store (by omega) (.int .i64 (dm (pre ++ [(pl, p)]))))
      obtain ⟨h1, h2⟩ := h
      have e := dm_snoc pre (pl, p)
      first
        | (rw [show max (dm pre) ((pl.length : Int) + 1) = (pl.length : Int) + 1 from by omega] at e; rw [e] at h1 h2; exact ⟨h1, h2 _ (by rw [e])⟩)
        | (rw [show max (dm pre) ((pl.length : Int) + 1) = dm pre from by omega] at e; rw [e] at h1 h2; exact ⟨h1, h2 _ (by rw [e])⟩)
        | trace_state
  case done =>
    rintro D E W hD hi hDE hK
    have hc := hi.box.cell
    gi_wp2
    refine ⟨by simp, .inl ⟨_, _, rfl, run_takeDeferred hK, ?_⟩⟩
    refine ⟨_, results_tmp rfl _ _ _, ?_, hi.bel.trans ⟨rfl, rfl, rfl, by simp, fun k hk => World.putObj_heap_other (by omega)⟩⟩
    show Ending.returned (Value.int .i64 (dm (t.parts []))) = _
    exact ret_i64 hR
  case stop =>
    rintro D E pre W _ h
    exact h.elim

end Go.Proofs.Ytbbfpllffcfmhaa
