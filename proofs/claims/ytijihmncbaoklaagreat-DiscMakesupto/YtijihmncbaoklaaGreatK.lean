import Derived.Test.YtijihmncbaoklaaGreatI
import Derived.Laws.EntriesVeiled

/-
  The iterator over a term's parts, whole; term.Size, Depth.
-/
namespace Go.Proofs.YtijihmncbaoklaaGreat
open Go.RowKit Go.Shelf

attribute [local go_sem] Oper.semAt_some

theorem walk_any (w0 : World) (n l Y Pb Wb : Nat) (all : List Part) (J Jx : List Nat → List Part → World → Prop) (hJ : Abide J) (hY : Yields n l w0 all J Jx) (hlen : ∀ q ∈ all, q.1.length ≤ 1048576) (p : T) : WalkAt w0 n l Y Pb Wb all J Jx p := by
  induction p using T.ind with
  | _ p ih => exact walk_one w0 n l Y Pb Wb all J Jx hJ hY hlen p ih

set_option maxRecDepth 100000 in
set_option maxHeartbeats 2000000 in
theorem iter_any (w0 : World) (n Bt : Nat) (t : T) (sl : Value) (W : World) (hb : Below w0.heap.size w0 W) (hn0 : w0.heap.size ≤ n) (hn : n ≤ W.heap.size) (hbx : W.heap[Bt]? = some (.cells [Value.int .i64 t.v, .string t.fn, sl].toArray 32 (0, 0))) (ha : ArgsAt w0 sl t.args) (hlen : ∀ q ∈ t.parts [], q.1.length ≤ 1048576) :
    Iter n 78 #[.pointer (some ⟨Bt, 0, none⟩)] w0 (t.parts []) W := by
  intro m l J Jx hJ hY hj
  have hw := walk_any w0 n l W.heap.size (W.heap.size + 1) (W.heap.size + 1 + 1) (t.parts []) J Jx hJ hY hlen t
  have c0 : W.cell? ⟨Bt, 0, none⟩ = some (.int .i64 t.v) := by rw [cell_of_row _ _ _ _ 32 (0, 0) hbx]; rfl
  have c1 : W.cell? ⟨Bt, 1, none⟩ = some (.string t.fn) := by rw [cell_of_row _ _ _ _ 32 (0, 0) hbx]; rfl
  have c2 : W.cell? ⟨Bt, 2, none⟩ = some sl := by rw [cell_of_row _ _ _ _ 32 (0, 0) hbx]; rfl
  have hBlt : Bt < W.heap.size := (Array.getElem?_eq_some_iff.1 hbx).1
  obtain ⟨fv, hfv⟩ : ∃ fv : Value, fv = .func (.func 79) #[] #[.pointer (some ⟨W.heap.size, 0, none⟩), .pointer (some ⟨W.heap.size + 1, 0, none⟩), .pointer (some ⟨W.heap.size + 1 + 1, 0, none⟩)] := ⟨_, rfl⟩
  have y0 := Boxed.new W 140 (.func (.yield l) #[] #[])
  have p0 := Boxed.new (W.alloc (.cells #[.func (.yield l) #[] #[]] 140)) 49 (.slice none 0 0)
  have k0 := Boxed.new ((W.alloc (.cells #[.func (.yield l) #[] #[]] 140)).alloc (.cells #[.slice none 0 0] 49)) 65 fv
  rw [World.size_alloc] at p0
  rw [World.size_alloc, World.size_alloc] at k0
  have y1 := (y0.alloc (.cells #[.slice none 0 0] 49)).alloc (.cells #[fv] 65)
  have p1 := p0.alloc (.cells #[fv] 65)
  have b3 : Below w0.heap.size W (((W.alloc (.cells #[.func (.yield l) #[] #[]] 140)).alloc (.cells #[.slice none 0 0] 49)).alloc (.cells #[fv] 65)) := (((Below.refl _ _).alloc hb.size _).alloc (by have := hb.size; simp; omega) _).alloc (by have := hb.size; simp; omega) _
  have hS : ItS w0 n l W.heap.size (W.heap.size + 1) (W.heap.size + 1 + 1) [W.heap.size, W.heap.size + 1, W.heap.size + 1 + 1] [] (.slice none 0 0) (((W.alloc (.cells #[.func (.yield l) #[] #[]] 140)).alloc (.cells #[.slice none 0 0] 49)).alloc (.cells #[fv] 65)) :=
    { y := y1, p := p1, k := hfv ▸ k0, my := by simp, mp := by simp, mw := by simp, ny := by omega, nk := by omega, place := ⟨World.ownsRow_nil _ _ _ _, fun g e => by cases e⟩, bel := hb.trans b3, lp := by have := hb.size; omega, ln := hn0, hn := by simp; omega }
  have hj3 : J [W.heap.size, W.heap.size + 1, W.heap.size + 1 + 1] [] (((W.alloc (.cells #[.func (.yield l) #[] #[]] 140)).alloc (.cells #[.slice none 0 0] 49)).alloc (.cells #[fv] 65)) := by
    have j1 := hJ _ [] _ _ _ _ hj (World.grownBy_alloc W (.cells #[.func (.yield l) #[] #[]] 140) none) (fun _ e => by cases e) (fun r hr => by cases hr)
    have j2 := hJ _ [] _ _ _ _ j1 (World.grownBy_alloc _ (.cells #[.slice none 0 0] 49) none) (fun _ e => by cases e) (fun r hr => by cases hr)
    have g3 := World.grownBy_alloc ((W.alloc (.cells #[.func (.yield l) #[] #[]] 140)).alloc (.cells #[.slice none 0 0] 49)) (.cells #[fv] 65) none
    have g13 : W.grownBy (((W.alloc (.cells #[.func (.yield l) #[] #[]] 140)).alloc (.cells #[.slice none 0 0] 49)).alloc (.cells #[fv] 65)) none := ⟨rfl, rfl, rfl, by simp; omega, fun i hi _ => by rw [Below.heap_alloc _ _ _ (by simp; omega), Below.heap_alloc _ _ _ (by simp; omega), Below.heap_alloc _ _ _ hi]⟩
    exact hJ _ _ _ _ _ _ hj g13 (fun _ e => by cases e) (fun r hr => .inr (by simp at hr ⊢; omega))
  have hcall := hw (m - 1) sl _ _ [] [] _ hS hj3 ha ⟨[], by simp⟩
  have bW : Below W.heap.size W (((W.alloc (.cells #[.func (.yield l) #[] #[]] 140)).alloc (.cells #[.slice none 0 0] 49)).alloc (.cells #[fv] 65)) := (((Below.refl _ _).alloc (Nat.le_refl _) _).alloc (by simp) _).alloc (by simp; omega) _
  have c0' := kc bW hBlt c0
  have c1' := kc bW hBlt c1
  have c2' := kc bW hBlt c2
  rw [hfv] at hcall c0' c1' c2'
  clear c0 c1 c2 bW
  clear hS hj3 hw y0 p0 k0 y1 p1 b3 hY hJ hlen hj hbx
  obtain ⟨sa, sc, rfl, _, _⟩ := ha.slice
  clear ha
  refine callsIn_of_wp Tryz.func78 rfl trivial ?_ rfl
  simp only [Tryz.ntmps78, List.size_toArray, List.length_cons, List.length_nil, Nat.reduceAdd, Nat.reduceSub, Array.replicate_succ, Array.replicate_zero, List.push_toArray, List.append_toArray, List.nil_append, List.cons_append]
  gi_wp2_with fail
  refine ⟨trivial, fun h => (by cases h), hcall.mono ?_⟩
  rintro e W6 (⟨rfl, E6, pv6, hS6, hj6, hE6⟩ | ⟨rfl, E6, pre6, hx6⟩)
  · gi_wp2
    go_end0
    exact ⟨⟨_, rfl⟩, .inl ⟨E6, by simpa using hj6⟩⟩
  · gi_wp2
    go_end0
    exact ⟨⟨_, rfl⟩, .inr ⟨E6, pre6, hx6⟩⟩

/-- term.parts: the parameter is boxed; the function value captures the box. -/
theorem parts_any (t : T) (sl : Value) (w : World) :
    Calls Tryz.prog 50 #[tval t sl] w fun e w' => e = .returned (.func (.func 78) #[] #[.pointer (some ⟨w.heap.size, 0, none⟩)]) ∧ w' = w.alloc (tbox t sl) := by
  go_enter Tryz.func50, Tryz.ntmps50
  go_wp2
  go_ret
  exact ⟨rfl, rfl⟩

end Go.Proofs.YtijihmncbaoklaaGreat

/-
  term.Size, term.Depth.
-/
namespace Go.Proofs.YtijihmncbaoklaaGreat
open Go.RowKit Go.Shelf

attribute [local go_sem] Oper.semAt_some

/-- What a loop over the parts keeps in one box. -/
structure Inv (w : World) (B : Nat) (ty : TypeId) (val : List Part → Value) (E : List Nat) (pre : List Part) (W : World) : Prop where
  box : Boxed W B ty (val pre)
  out : B ∉ E
  low : ∀ r ∈ E, w.heap.size ≤ r ∧ r < W.heap.size
  bel : Below w.heap.size w W

theorem Inv.abide (w : World) (B : Nat) (ty : TypeId) (val : List Part → Value) : Abide (Inv w B ty val) := by
  intro E E' s W W' row h hg hr hE
  have hlt := h.box.lt
  refine ⟨h.box.kept hg (fun e => h.out (hr B e.symm)), fun hb => ?_, fun r hr' => ?_, h.bel.trans ⟨hg.os, hg.tape, hg.output, hg.size, fun k hk => hg.block k (Nat.lt_of_lt_of_le hk h.bel.size) (fun e => by have := h.low k (hr k e.symm); omega)⟩⟩
  · rcases hE B hb with hb | hb
    · exact h.out hb
    · omega
  · rcases hE r hr' with h' | h'
    · exact ⟨(h.low r h').1, Nat.lt_of_lt_of_le (h.low r h').2 hg.size⟩
    · exact ⟨Nat.le_trans h.bel.size h'.1, h'.2⟩

theorem Inv.store {w : World} {B : Nat} {ty : TypeId} {val : List Part → Value} {E : List Nat} {pre : List Part} {W : World} (h : Inv w B ty val E pre W) (hB : w.heap.size ≤ B) (v : Value) : Kept w.heap.size E W (W.setCell ⟨B, 0, none⟩ v) ∧ ∀ s, v = val s → Inv w B ty val E s (W.setCell ⟨B, 0, none⟩ v) := by
  have hb : Below w.heap.size W (W.setCell ⟨B, 0, none⟩ v) := (Below.refl _ _).setCell (p := ⟨B, 0, none⟩) hB _
  have g := grownBy_setCell' W B v
  have hs : ∀ s, v = val s → Inv w B ty val E s (W.setCell ⟨B, 0, none⟩ v) := fun s e => ⟨e ▸ h.box.set v, h.out, fun r hr => ⟨(h.low r hr).1, Nat.lt_of_lt_of_le (h.low r hr).2 g.size⟩, h.bel.trans hb⟩
  refine ⟨⟨hb, fun r hr => ?_⟩, hs⟩
  by_cases hlt : r < W.heap.size
  · exact g.block r hlt (fun e => h.out (Option.some.inj e ▸ hr))
  · have h2 : (W.setCell ⟨B, 0, none⟩ v).heap.size = W.heap.size := by simp
    rw [Array.getElem?_eq_none (by omega), Array.getElem?_eq_none (by omega)]

theorem size_parts (t : T) : ∀ pl, ((t.parts pl).length : Int) = t.size := by
  induction t using T.ind with
  | _ t ih =>
    intro pl
    have h : ∀ (l : List T) (i : Nat), (∀ a ∈ l, a ∈ t.args) → ((T.parts.kids l pl i).length : Int) = (l.map T.size).sum := by
      intro l
      induction l with
      | nil => intro i _; rfl
      | cons a r ihl =>
        intro i hm
        have h1 := ih a (hm a (by simp)) (pl ++ [(i : Int)])
        have h2 := ihl (i + 1) (fun b hb => hm b (by simp [hb]))
        simp only [T.parts.kids, List.length_append, List.map_cons, List.sum_cons]
        omega
    rw [t.parts_eq, t.size_eq, List.length_cons, ← h t.args 0 (fun _ h => h)]
    omega

theorem cnt_step (pre : List Part) (x : Part) : wrap64 ((pre ++ [x]).length : Int) = wrap64 (wrap64 (pre.length : Int) + 1) := by
  have h : ((pre ++ [x]).length : Int) = (pre.length : Int) + 1 := by simp
  rw [h]
  simp only [wrap64]
  omega

/-- The depth. -/
def T.depth : T → Int
  | .mk _ _ args => dps args 0 + 1
where dps : List T → Int → Int
  | [], m => m
  | a :: r, m => dps r (max m (T.depth a))

theorem T.depth_eq (t : T) : t.depth = (t.args.map T.depth).foldl max 0 + 1 := by
  have h : ∀ (l : List T) (m : Int), T.depth.dps l m = (l.map T.depth).foldl max m := by
    intro l
    induction l with
    | nil => intro m; rfl
    | cons a r ih => intro m; simp [T.depth.dps, ih]
  cases t with
  | mk v fn args => simp [T.depth, T.args, h]

/-- The depth, by the places. -/
def dm (l : List Part) : Int := l.foldl (fun m q => max m ((q.1.length : Int) + 1)) 0
theorem dm_snoc (l : List Part) (q : Part) : dm (l ++ [q]) = max (dm l) ((q.1.length : Int) + 1) := by simp [dm]

theorem fold_shift (c : Int) : ∀ (ds : List Int) (m x : Int), 0 ≤ x → ds.foldl (fun m d => max m (c + d)) (max m (c + x)) = max m (c + ds.foldl max x)
  | [], _, _, _ => rfl
  | d :: r, m, x, hx => by
    have h : max (max m (c + x)) (c + d) = max m (c + max x d) := by omega
    simp only [List.foldl_cons]
    rw [h]
    exact fold_shift c r m (max x d) (by omega)

theorem fold_parts (t : T) : ∀ (pl : List Int) (m : Int), (t.parts pl).foldl (fun m q => max m ((q.1.length : Int) + 1)) m = max m (pl.length + t.depth) := by
  induction t using T.ind with
  | _ t ih =>
    intro pl m
    have h : ∀ (l : List T) (i : Nat) (m : Int), (∀ a ∈ l, a ∈ t.args) → (T.parts.kids l pl i).foldl (fun m q => max m ((q.1.length : Int) + 1)) m = (l.map T.depth).foldl (fun m d => max m ((pl.length : Int) + 1 + d)) m := by
      intro l
      induction l with
      | nil => intro i m _; rfl
      | cons a r ihl =>
        intro i m hm
        simp only [T.parts.kids, List.foldl_append, List.map_cons, List.foldl_cons]
        rw [ih a (hm a (by simp)) (pl ++ [(i : Int)]) m, ihl (i + 1) _ (fun b hb => hm b (by simp [hb]))]
        congr 2
        simp
    rw [t.parts_eq, List.foldl_cons, h t.args 0 _ (fun _ h => h), t.depth_eq]
    have := fold_shift ((pl.length : Int) + 1) (t.args.map T.depth) m 0 (Int.le_refl _)
    simp only [Int.add_zero] at this
    rw [this]
    omega

theorem foldl_max_ge : ∀ (ds : List Int) (m : Int), m ≤ ds.foldl max m
  | [], _ => Int.le_refl _
  | d :: r, m => Int.le_trans (by omega) (foldl_max_ge r (max m d))
theorem foldl_max_mem : ∀ (ds : List Int) (m : Int) (d : Int), d ∈ ds → d ≤ ds.foldl max m
  | [], _, _, h => by cases h
  | x :: r, m, d, h => by
    rcases List.mem_cons.1 h with rfl | h
    · exact Int.le_trans (by omega) (foldl_max_ge r (max m d))
    · exact foldl_max_mem r _ d h
theorem depth_pos (t : T) : 1 ≤ t.depth := by
  rw [t.depth_eq]
  have := foldl_max_ge (t.args.map T.depth) 0
  omega

theorem dm_parts (t : T) : dm (t.parts []) = t.depth := by
  unfold dm
  rw [fold_parts t [] 0]
  have := depth_pos t
  simp
  omega

theorem depthW_small (t : T) : t.depth ≤ 9223372036854775807 → t.depthW = t.depth := by
  induction t using T.ind with
  | _ t ih =>
    intro hd
    rw [t.depth_eq] at hd
    have hm : t.args.map T.depthW = t.args.map T.depth := List.map_congr_left fun a ha => ih a ha (by
      have := foldl_max_mem (t.args.map T.depth) 0 a.depth (List.mem_map_of_mem ha)
      omega)
    have := foldl_max_ge (t.args.map T.depth) 0
    rw [t.depthW_eq, t.depth_eq, hm]
    simp only [wrap64]
    omega

/-- All places are short: no list of them is great. -/
def Short (t : T) : Prop := ∀ q ∈ t.parts [], q.1.length ≤ 1048576

theorem dm_ge (l : List Part) : 0 ≤ dm l ∧ ((∀ q ∈ l, q.1.length ≤ 1048576) → dm l ≤ 1048577) := by
  have h : ∀ (l : List Part) (m : Int), m ≤ l.foldl (fun m q => max m ((q.1.length : Int) + 1)) m ∧ (m ≤ 1048577 → (∀ q ∈ l, q.1.length ≤ 1048576) → l.foldl (fun m q => max m ((q.1.length : Int) + 1)) m ≤ 1048577) := by
    intro l
    induction l with
    | nil => intro m; exact ⟨Int.le_refl _, fun h _ => h⟩
    | cons q r ih =>
      intro m
      obtain ⟨h1, h2⟩ := ih (max m ((q.1.length : Int) + 1))
      refine ⟨Int.le_trans (by omega) h1, fun hm hq => h2 ?_ (fun x hx => hq x (by simp [hx]))⟩
      have := hq q (by simp)
      omega
  exact ⟨(h l 0).1, fun hq => (h l 0).2 (by omega) hq⟩

theorem PlaceV.shape {n : Nat} {E : List Nat} {W : World} {pv : Value} {pl : List Int} (h : PlaceV n E W pv pl) : ∃ a c, pv = .slice a pl.length c := by
  rcases h.1.2 with ⟨rfl, h0⟩ | ⟨g, cap, cur, rfl, _⟩
  · exact ⟨none, 0, by rw [h0]⟩
  · exact ⟨_, _, rfl⟩

end Go.Proofs.YtijihmncbaoklaaGreat
