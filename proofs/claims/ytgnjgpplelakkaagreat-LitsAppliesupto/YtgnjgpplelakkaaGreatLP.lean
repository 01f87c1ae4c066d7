import Derived.Test.YtgnjgpplelakkaaGreatLM
import Derived.Test.YtgnjgpplelakkaaGreatLV
import Derived.Lib.AppendZerosOnto
import Derived.Lib.SliceRun
import Derived.Test.YtgnjgpplelakkaaGreatLC

/-
  The names that variables get: lits.renamer's closure name.
-/
namespace Go.Proofs.YtgnjgpplelakkaaGreat
open Go.RowKit Go.Maps

/-- Where a number was met first. -/
def idx (met : List Int) (n : Int) : Option Nat := met.findIdx? (· == n)
/-- The map of names. -/
def mm (met : List Int) : Value → Option Value
  | .int .i64 n => (idx met n).map fun (j : Nat) => Value.int .i64 (j : Int)
  | _ => none

theorem idx_snoc (met : List Int) (n : Int) (h : idx met n = none) (m : Int) : idx (met ++ [n]) m = if m = n then some met.length else idx met m := by
  unfold idx at *
  rw [List.findIdx?_append]
  by_cases e : m = n
  · subst e
    rw [h]
    simp
  · rw [if_neg e]
    have : List.findIdx? (fun x => x == m) [n] = none := by simp [List.findIdx?_cons]; omega
    rw [this]
    simp

theorem upd_mm (met : List Int) (n : Int) (h : idx met n = none) : upd (mm met) (.int .i64 n) (.int .i64 (met.length : Int)) = mm (met ++ [n]) := by
  funext v
  unfold upd
  by_cases e : v = .int .i64 n
  · subst e
    rw [if_pos rfl]
    simp only [mm, idx_snoc met n h, if_true, Option.map_some]
  · rw [if_neg e]
    cases v with
    | int k m =>
      cases k <;> try rfl
      simp only [mm, idx_snoc met n h]
      rw [if_neg (fun hmn => e (by rw [hmn]))]
    | _ => rfl

/-- The names behind a number, and the number's name. -/
def nm (met : List Int) (n : Int) : List Int × Int :=
  if n < 0 ∨ 1000000 ≤ n then (met, n) else match idx met n with
    | some j => (met, (j : Int))
    | none => (met ++ [n], (met.length : Int))

theorem nm_len (met : List Int) (n : Int) : (nm met n).1.length ≤ met.length + 1 := by
  unfold nm
  split
  · simp
  · split <;> simp

theorem zero3 (w : World) : (zeroValue 3).run Tryz.prog w = .ok (.int .i64 0) w := Tryz.zeroValue3 w

set_option maxRecDepth 100000 in
set_option maxHeartbeats 2000000 in
theorem name_any (b C : Nat) (met : List Int) (n : Int) (W : World) (hC : W.cell? ⟨C, 0, none⟩ = some (.map (some b))) (hCb : C ≠ b) (hm : MapIs W 3 b (mm met) met.length) (hlen : met.length ≤ 1073741824) :
    Calls Tryz.prog 57 #[.int .i64 n, .pointer (some ⟨C, 0, none⟩)] W fun e W' => e = .returned (.int .i64 (nm met n).2) ∧ MapIs W' 3 b (mm (nm met n).1) (nm met n).1.length ∧ Only [b] W W' := by
  by_cases hr : n < 0 ∨ 1000000 ≤ n
  · have HE : Hid (nm met n = (met, n)) := by show _ = _; unfold nm; rw [if_pos hr]
    have HR : Hid (True ∧ MapIs W 3 b (mm met) met.length) := ⟨trivial, hm⟩
    clear hm
    rcases hr with hr | hr
    · go_enter Tryz.func57, Tryz.ntmps57
      go_wp2
      go_ret
      exact ⟨ret_i64 (by rw [HE.out]), by rw [HE.out]; exact HR.out.2, Only.refl _ _⟩
    · have hr0 : ¬ n < 0 := by omega
      go_enter Tryz.func57, Tryz.ntmps57
      go_wp2
      all_goals first | (exfalso; omega) | skip
      go_ret
      exact ⟨ret_i64 (by rw [HE.out]), by rw [HE.out]; exact HR.out.2, Only.refl _ _⟩
  · have hk := key3 (a := n) ⟨by omega, by omega⟩
    have h0 : ¬ n < 0 := by omega
    have h1 : ¬ 1000000 ≤ n := by omega
    cases hi : idx met n with
    | some j =>
      have HE : Hid (nm met n = (met, (j : Int))) := by show _ = _; unfold nm; rw [if_neg hr, hi]
      obtain ⟨hl1, hl2⟩ := (hm.look keyed3 Tryz.underlying84 (zero3 W) hk).1 (.int .i64 (j : Int)) (by simp [mm, hi])
      have HR : Hid (MapIs W 3 b (mm met) met.length) := hm
      clear hm hi hk hr
      go_enter Tryz.func57, Tryz.ntmps57
      go_wp2
      all_goals first | (exfalso; omega) | skip
      go_ret
      exact ⟨ret_i64 (by rw [HE.out]), by rw [HE.out]; exact HR.out, Only.refl _ _⟩
    | none =>
      have HE : Hid (nm met n = (met ++ [n], (met.length : Int))) := by show _ = _; unfold nm; rw [if_neg hr, hi]
      have hno : mm met (.int .i64 n) = none := by simp [mm, hi]
      obtain ⟨hl1, hl2⟩ := (hm.look keyed3 Tryz.underlying84 (zero3 W) hk).2 hno
      have hln := hm.len Tryz.underlying84 3
      obtain ⟨W2, hrun, hM2, hg2⟩ := hm.put keyed3 Tryz.underlying84 (by unfold maxLen; omega) hk (.int .i64 (met.length : Int))
      rw [hno, upd_mm met n hi] at hM2
      simp only at hM2
      have hC2 : W2.cell? ⟨C, 0, none⟩ = some (.map (some b)) := hg2.cell (a := ⟨C, 0, none⟩) hC (fun e => hCb (Option.some.inj e))
      have hl3 := ((hM2.look keyed3 Tryz.underlying84 (zero3 W2) hk).1 (.int .i64 (met.length : Int)) (by simp only [mm, idx_snoc met n hi, if_true, Option.map_some])).2
      have HO : Hid (MapIs W2 3 b (mm (met ++ [n])) (met.length + 1) ∧ Only [b] W W2) := ⟨hM2, Only.of_grown hg2 (fun r e => by cases e; simp)⟩
      clear hm hM2 hg2 hi hk hr hno
      go_enter Tryz.func57, Tryz.ntmps57
      go_wp2_with (first | (refine wpList_mapUpdate_run rfl 84 _ _ _ rfl (.map (some b)) (.int .i64 n) (.int .i64 (met.length : Int)) rfl rfl rfl hrun ?_))
      all_goals first | (exfalso; omega) | skip
      go_ret
      exact ⟨ret_i64 (by rw [HE.out]), by rw [HE.out]; simpa using HO.out.1, HO.out.2⟩

end Go.Proofs.YtgnjgpplelakkaaGreat

/-
  slices.Grow of a nil slice of terms.
-/
namespace Go.Proofs.YtgnjgpplelakkaaGreat
open Go.RowKit Go.Maps

set_option maxHeartbeats 1000000 in
theorem grow_zero (w : World) : Calls Tryz.prog 59 #[.slice none 0 0, .int .i64 0] w fun e w' => e = .returned (.slice none 0 0) ∧ w' = w := by
  go_enter Tryz.func59, Tryz.ntmps59
  go_wp2
  go_ret
  exact ⟨rfl, rfl⟩

set_option maxRecDepth 100000 in
set_option maxHeartbeats 2000000 in
theorem grow_some (n : Nat) (w : World) (h0 : 0 < n) (hn : n ≤ 1048576) (base : Nat) (hb : base ≤ w.heap.size) : Calls Tryz.prog 59 #[.slice none 0 0, .int .i64 n] w fun e w' => ∃ c, e = .returned (.slice (some ⟨w.heap.size, 0, none⟩) 0 c) ∧ w'.ownsRow base 28 3 (.slice (some ⟨w.heap.size, 0, none⟩) 0 c) 0 [] ∧ Below w.heap.size w w' := by
  obtain ⟨i0, hi, hz0, hz1, hz2⟩ := info_parts Tryz.info28
  have hrz : ∀ ty, (Builtin.append_ #[26, 3] ty #[.slice none 0 0, .int .i64 n]).run Tryz.prog w = .ok (.slice (some ⟨w.heap.size, 0, none⟩) n (grownCap w n 0 28)) (w.drew.alloc (.cells (([] : List Value).toArray ++ Builtin.zeroCells (Value.agg #[.int .i64 0, .string ⟨#[]⟩, .slice none 0 0]).cells n ++ Builtin.zeroCells (Value.agg #[.int .i64 0, .string ⟨#[]⟩, .slice none 0 0]).cells (grownCap w n 0 28 - n)) 28)) := fun ty => by
    have h := Lib.run_append_grow_zeros w 26 3 ty 28 i0 _ .i64 .i64 Tryz.underlying26 Tryz.underlying3 hi hz0 none 0 0 [] (run_firstCells_none w.drew i0.size 0 0 0) n h0 (by rw [hz1]; decide) (by omega) (by omega) (by rw [hz2]; omega) (by rw [Nat.zero_add]; exact growslice_fits h0 (by rw [hz2]; omega))
    simp only [Nat.zero_add] at h
    exact h
  obtain ⟨G, W1, hrun, hown, hbel, hg⟩ : ∃ G W1, (∀ ty, (Builtin.append_ #[26, 3] ty #[.slice none 0 0, .int .i64 n]).run Tryz.prog w = .ok (.slice (some ⟨w.heap.size, 0, none⟩) n G) W1) ∧ W1.ownsRow base 28 3 (.slice (some ⟨w.heap.size, 0, none⟩) 0 G) 0 [] ∧ Below w.heap.size w W1 ∧ n ≤ G ∧ G ≤ 9223372036854775807 := by
    have hG1 : n ≤ grownCap w n 0 28 := grownCap_ge w _ _ _
    have hG2 : grownCap w n 0 28 ≤ maxLen := grownCap_le_maxLen w n 0 28 (by unfold maxLen; omega)
    refine ⟨_, _, hrz, ⟨rfl, .inr ⟨w.heap.size, grownCap w n 0 28, _, rfl, hb, (MapKept.heap_alloc w.drew _).1, Nat.zero_le _, hG2, ?_, by simp⟩⟩, (Below.refl _ w).drew.trans (below_box w.drew _), hG1, by unfold maxLen at hG2; omega⟩
    have e : (Value.agg #[.int .i64 0, .string ⟨#[]⟩, .slice none 0 0]).cells.size = 3 := rfl
    simp only [Array.size_append, List.size_toArray, List.length_nil, Builtin.zeroCells, Array.size_map, Array.size_range, e]
    omega
  have HO : Hid (W1.ownsRow base 28 3 (.slice (some ⟨w.heap.size, 0, none⟩) 0 G) 0 [] ∧ Below w.heap.size w W1) := ⟨hown, hbel⟩
  obtain ⟨hg1, hg2⟩ := hg
  have hp : (n : Int) > 0 := by omega
  have hp0 : ¬ ((n : Int) < 0) := by omega
  clear hown hbel hrz hi hz0 hz1 hz2
  go_enter Tryz.func59, Tryz.ntmps59
  go_wp2_with (at_builtin; refine Lib.wpList_append_run _ rfl _ _ _ _ rfl _ _ rfl rfl _ _ (hrun _) ?_)
  all_goals first | (exfalso; omega) | skip
  go_ret
  exact ⟨G, rfl, HO.out⟩

end Go.Proofs.YtgnjgpplelakkaaGreat

/-
  Terms named anew; what stands in rename's loop.
-/
namespace Go.Proofs.YtgnjgpplelakkaaGreat
open Go.RowKit Go.Maps

/-- The term with its variables named anew, and the numbers met. -/
def ren : T → List Int → T × List Int
  | .mk v fn args, met => (.mk (if fn.size = 0 then (nm met v).2 else v) fn (rens args (if fn.size = 0 then (nm met v).1 else met)).1, (rens args (if fn.size = 0 then (nm met v).1 else met)).2)
where rens : List T → List Int → List T × List Int
  | [], met => ([], met)
  | a :: r, met => ((ren a met).1 :: (rens r (ren a met).2).1, (rens r (ren a met).2).2)

/-- The names behind the term's own number. -/
def nmT (t : T) (met : List Int) : List Int × Int := if t.fn.size = 0 then nm met t.v else (met, t.v)

theorem ren_eq (t : T) (met : List Int) : ren t met = (.mk (nmT t met).2 t.fn (ren.rens t.args (nmT t met).1).1, (ren.rens t.args (nmT t met).1).2) := by
  cases t with
  | mk v fn args =>
    by_cases h : fn.size = 0
    · have e : nmT (.mk v fn args) met = nm met v := if_pos h
      rw [e]
      simp only [T.fn, T.args, ren, if_pos h]
    · have e : nmT (.mk v fn args) met = (met, v) := if_neg h
      rw [e]
      simp only [T.fn, T.args, ren, if_neg h]

theorem rens_snoc : ∀ (l : List T) (a : T) (met : List Int), ren.rens (l ++ [a]) met = ((ren.rens l met).1 ++ [(ren a (ren.rens l met).2).1], (ren a (ren.rens l met).2).2)
  | [], a, met => rfl
  | x :: r, a, met => by simp only [List.cons_append, ren.rens, rens_snoc r a]

theorem rens_len : ∀ (l : List T) (met : List Int), (ren.rens l met).1.length = l.length
  | [], _ => rfl
  | x :: r, met => by simp only [ren.rens, List.length_cons, rens_len r]

theorem nmT_len (t : T) (met : List Int) : (nmT t met).1.length ≤ met.length + 1 := by
  unfold nmT
  split
  · exact nm_len met t.v
  · simp

theorem ren_met (t : T) : ∀ met, ((ren t met).2.length : Int) ≤ met.length + t.size := by
  induction t using T.ind with
  | _ t ih =>
    intro met
    have h : ∀ (l : List T) (met : List Int), (∀ a ∈ l, a ∈ t.args) → ((ren.rens l met).2.length : Int) ≤ met.length + (l.map T.size).sum := by
      intro l
      induction l with
      | nil => intro met _; simp [ren.rens]
      | cons a r ihl =>
        intro met hm
        have h1 := ih a (hm a (by simp)) met
        have h2 := ihl (ren a met).2 (fun b hb => hm b (by simp [hb]))
        simp only [ren.rens, List.map_cons, List.sum_cons]
        omega
    have h1 := h t.args (nmT t met).1 (fun _ h => h)
    have h2 := nmT_len t met
    rw [ren_eq, t.size_eq]
    simp only
    omega

theorem rens_met (l : List T) : ∀ met, ((ren.rens l met).2.length : Int) ≤ met.length + (l.map T.size).sum := by
  induction l with
  | nil => intro met; simp [ren.rens]
  | cons a r ih =>
    intro met
    have h1 := ren_met a met
    have h2 := ih (ren a met).2
    simp only [ren.rens, List.map_cons, List.sum_cons]
    omega

theorem cell_block {W W' : World} {k o : Nat} (h : W'.heap[k]? = W.heap[k]?) : W'.cell? ⟨k, o, none⟩ = W.cell? ⟨k, o, none⟩ := by simp [World.cell?, h]

/-- The renamer in memory: its map, the cells of its closures. -/
structure RenSt (C b N R : Nat) (met : List Int) (W : World) : Prop where
  c : W.cell? ⟨C, 0, none⟩ = some (.map (some b))
  m : MapIs W 3 b (mm met) met.length
  n : W.cell? ⟨N, 0, none⟩ = some (.func (.func 57) #[] #[.pointer (some ⟨C, 0, none⟩)])
  r : W.cell? ⟨R, 0, none⟩ = some (.func (.func 58) #[] #[.pointer (some ⟨N, 0, none⟩), .pointer (some ⟨R, 0, none⟩)])
  cb : C ≠ b
  nb : N ≠ b
  rb : R ≠ b

section
variable {C b N R : Nat} {met : List Int} {W W' : World}

theorem RenSt.lt (h : RenSt C b N R met W) : C < W.heap.size ∧ b < W.heap.size ∧ N < W.heap.size ∧ R < W.heap.size :=
  ⟨World.block_lt_of_cell? W _ h.c, h.m.lt, World.block_lt_of_cell? W _ h.n, World.block_lt_of_cell? W _ h.r⟩

theorem RenSt.same (h : RenSt C b N R met W) (hC : W'.heap[C]? = W.heap[C]?) (hb : W'.heap[b]? = W.heap[b]?) (hN : W'.heap[N]? = W.heap[N]?) (hR : W'.heap[R]? = W.heap[R]?) : RenSt C b N R met W' :=
  ⟨(cell_block hC).trans h.c, h.m.same hb, (cell_block hN).trans h.n, (cell_block hR).trans h.r, h.cb, h.nb, h.rb⟩

theorem RenSt.keep (h : RenSt C b N R met W) (hb : Below W.heap.size W W') : RenSt C b N R met W' :=
  h.same (hb.block _ h.lt.1) (hb.block _ h.lt.2.1) (hb.block _ h.lt.2.2.1) (hb.block _ h.lt.2.2.2)

/-- The map alone turned. -/
theorem RenSt.next (h : RenSt C b N R met W) (hO : Only [b] W W') (met' : List Int) (hm : MapIs W' 3 b (mm met') met'.length) : RenSt C b N R met' W' :=
  ⟨(cell_block (hO.block _ h.lt.1 (by simpa using h.cb))).trans h.c, hm, (cell_block (hO.block _ h.lt.2.2.1 (by simpa using h.nb))).trans h.n, (cell_block (hO.block _ h.lt.2.2.2 (by simpa using h.rb))).trans h.r, h.cb, h.nb, h.rb⟩
end

/-- What rename does at a term. -/
def RenAt (C b N R : Nat) (W0 : World) (t : T) : Prop :=
  ∀ (met : List Int) (sl : Value) (w : World), RenSt C b N R met w → Below W0.heap.size W0 w → W0.heap.size ≤ b → ArgsAt W0 sl t.args → t.size ≤ 1048576 → (met.length : Int) + t.size ≤ 1073741824 →
    Calls Tryz.prog 58 #[tval t sl, .pointer (some ⟨N, 0, none⟩), .pointer (some ⟨R, 0, none⟩)] w fun e W' => ∃ sl', e = .returned (tval (ren t met).1 sl') ∧ ArgsP (fun x => w.heap.size ≤ x) W' sl' (ren t met).1.args ∧ RenSt C b N R (ren t met).2 W' ∧ Only [b] w W'

/-- What a round of rename leaves. -/
structure RenI (C b N R : Nat) (w : World) (t : T) (sl : Value) (v0 : Int) (met1 : List Int) (k : Nat) (v : Value) (ps : List (T × Value)) (W : World) : Prop where
  args : ps.map (·.1) = (ren.rens (t.args.take k) met1).1
  st : RenSt C b N R (ren.rens (t.args.take k) met1).2 W
  ok : ∀ p ∈ ps, ArgsP (fun x => w.heap.size + 3 ≤ x ∧ v.ownBlock ≠ some x) W p.2 p.1.args
  row : W.ownsRow (w.heap.size + 3) 28 3 v k (flatT ps)
  out : W.heap[w.heap.size + 1 + 1]? = some (.cells #[.int .i64 v0, .string t.fn, v] 28 (0, 0))
  tb : W.heap[w.heap.size]? = some (.cells #[.int .i64 t.v, .string t.fn, sl] 28 (0, 0))
  rb : W.heap[w.heap.size + 1]? = some (.cells #[.int .i64 0, .string ⟨#[]⟩, .slice none 0 0] 28 (0, 0))
  onl : Only [b] w W
  siz : w.heap.size + 3 ≤ W.heap.size

theorem ren_end {C b N R : Nat} {w : World} {t : T} {sl : Value} {v0 : Int} {met1 : List Int} {k : Nat} {v : Value} {ps : List (T × Value)} {wr : World} (h : RenI C b N R w t sl v0 met1 k v ps wr) (hl : C < w.heap.size ∧ b < w.heap.size ∧ N < w.heap.size ∧ R < w.heap.size) (hlt : k < t.args.length) (u : T) (met2 : List Int) (hu : ren t.args[k] (ren.rens (t.args.take k) met1).2 = (u, met2)) (s5 : Value) (W5 X w6 : World) (hX : Only [b] wr W5) (hX5 : Below W5.heap.size W5 X) (hst : RenSt C b N R met2 W5) (hA : ArgsP (fun x => wr.heap.size ≤ x) W5 s5 u.args) (v' : Value)
    (hown : w6.ownsRow (w.heap.size + 3) 28 3 v' (k + 1) (flatT ps ++ [.int .i64 u.v, .string u.fn, s5])) (hg : X.grownBy w6 v.ownBlock) (hat : v'.ownBlock = v.ownBlock ∨ v'.ownBlock = some X.heap.size) :
    RenI C b N R w t sl v0 met1 (k + 1) v' (ps ++ [(u, s5)]) (w6.setCell ⟨w.heap.size + 1 + 1, 2, none⟩ v') := by
  have hsz := h.siz
  have hXs := hX.size
  have hX5s := hX5.size
  have hgs := hg.size
  have hvl : ∀ g, v.ownBlock = some g → w.heap.size + 3 ≤ g ∧ g < wr.heap.size := fun g e => h.row.lt g e
  have hv'l : ∀ g, v'.ownBlock = some g → w.heap.size + 3 ≤ g := fun g e => (hown.lt g e).1
  have kp5 : ∀ k, k < W5.heap.size → v.ownBlock ≠ some k → k ≠ w.heap.size + 1 + 1 → (w6.setCell ⟨w.heap.size + 1 + 1, 2, none⟩ v').heap[k]? = W5.heap[k]? := fun k hk hv hb => by
    rw [Below.heap_setCell _ _ _ k hb, hg.block k (by omega) (fun e => hv e.symm), hX5.block k hk]
  have kp : ∀ k, k < wr.heap.size → k ≠ b → v.ownBlock ≠ some k → k ≠ w.heap.size + 1 + 1 → (w6.setCell ⟨w.heap.size + 1 + 1, 2, none⟩ v').heap[k]? = wr.heap[k]? := fun k hk hkb hv hb => by
    rw [kp5 k (by omega) hv hb, hX.block k hk (by simpa using hkb)]
  have hn : ∀ j, j < w.heap.size + 3 → v.ownBlock ≠ some j := fun j hj e => by have := hvl j e; omega
  have hv'b : ∀ b, b < X.heap.size → v.ownBlock ≠ some b → v'.ownBlock ≠ some b := fun b hb hne => by
    rcases hat with e | e
    · rw [e]; exact hne
    · rw [e]; intro e2; have := Option.some.inj e2; omega
  have hout : w6.heap[w.heap.size + 1 + 1]? = some (.cells #[.int .i64 v0, .string t.fn, v] 28 (0, 0)) := by
    rw [hg.block _ (by omega) (fun e => hn _ (by omega) e.symm), hX5.block _ (by omega), hX.block _ (by omega) (by simp; omega)]
    exact h.out
  have hrens : ren.rens (t.args.take (k + 1)) met1 = ((ren.rens (t.args.take k) met1).1 ++ [u], met2) := by
    rw [List.take_succ_eq_append_getElem hlt, rens_snoc, hu]
  refine ⟨?_, ?_, fun p hp => ?_, ?_, ?_, ?_, ?_, ?_, ?_⟩
  · rw [List.map_append, h.args, hrens]
    rfl
  · rw [hrens]
    exact hst.same (kp5 _ (by omega) (hn _ (by omega)) (by omega)) (kp5 _ (by omega) (hn _ (by omega)) (by omega)) (kp5 _ (by omega) (hn _ (by omega)) (by omega)) (kp5 _ (by omega) (hn _ (by omega)) (by omega))
  · rcases List.mem_append.1 hp with hp | hp
    · exact (h.ok p hp).keep (by simp; omega) (fun x ⟨hx, hne⟩ hlt => ⟨⟨hx, hv'b x (by omega) hne⟩, kp x hlt (by omega) hne (by omega)⟩)
    · simp at hp
      subst hp
      refine hA.keep (by simp; omega) (fun x hx hlt => ?_)
      have hne : v.ownBlock ≠ some x := fun e => by have := hvl x e; omega
      exact ⟨⟨by omega, hv'b x (by omega) hne⟩, kp5 x hlt hne (by omega)⟩
  · rw [flatT_snoc]
    exact row_keep hown (fun g hg => Below.heap_setCell _ _ _ g (by have := hv'l g hg; intro e; have : g = w.heap.size + 1 + 1 := e; omega))
  · have := heap_setCell_same w6 (w.heap.size + 1 + 1) 2 _ 28 v' hout
    simpa using this
  · rw [kp _ (by omega) (by omega) (hn _ (by omega)) (by omega)]; exact h.tb
  · rw [kp _ (by omega) (by omega) (hn _ (by omega)) (by omega)]; exact h.rb
  · exact ⟨by rw [show (w6.setCell ⟨w.heap.size + 1 + 1, 2, none⟩ v').os = w6.os from rfl, hg.os, hX5.os, hX.os, h.onl.os], by rw [show (w6.setCell ⟨w.heap.size + 1 + 1, 2, none⟩ v').tape = w6.tape from rfl, hg.tape, hX5.tape, hX.tape, h.onl.tape], by rw [show (w6.setCell ⟨w.heap.size + 1 + 1, 2, none⟩ v').output = w6.output from rfl, hg.output, hX5.output, hX.output, h.onl.output], by simp; omega, fun j hj hjb => (kp j (by omega) (by simpa using hjb) (hn j (by omega)) (by omega)).trans (h.onl.block j hj hjb)⟩
  · simp; omega

theorem ren_last {C b N R : Nat} {w : World} {t : T} {sl : Value} {v0 : Int} {met1 : List Int} {v : Value} {ps : List (T × Value)} {wr : World} (h : RenI C b N R w t sl v0 met1 t.args.length v ps wr) (hl : C < w.heap.size ∧ b < w.heap.size ∧ N < w.heap.size ∧ R < w.heap.size) :
    ArgsP (fun x => w.heap.size ≤ x) (set3 wr (w.heap.size + 1) 0 (.int .i64 v0) (.string t.fn) v) v (ren.rens t.args met1).1 ∧ RenSt C b N R (ren.rens t.args met1).2 (set3 wr (w.heap.size + 1) 0 (.int .i64 v0) (.string t.fn) v) ∧ Only [b] w (set3 wr (w.heap.size + 1) 0 (.int .i64 v0) (.string t.fn) v) := by
  have hsz := h.siz
  have hvl : ∀ g, v.ownBlock = some g → w.heap.size + 3 ≤ g ∧ g < wr.heap.size := fun g e => h.row.lt g e
  have h1 := h.args
  have h2 := h.st
  rw [List.take_length] at h1 h2
  refine ⟨argsP_of_row (row_keep h.row fun g hg => set3_other _ _ _ _ _ _ g (by have := hvl g hg; omega)) (by rw [rens_len]) h1 (fun b hb => by omega) (fun p hp => (h.ok p hp).keep (by rw [set3_size]; exact Nat.le_refl _) (fun x ⟨hx, _⟩ _ => ⟨by omega, set3_other _ _ _ _ _ _ x (by omega)⟩)), ?_, ?_⟩
  · exact h2.same (set3_other _ _ _ _ _ _ _ (by omega)) (set3_other _ _ _ _ _ _ _ (by omega)) (set3_other _ _ _ _ _ _ _ (by omega)) (set3_other _ _ _ _ _ _ _ (by omega))
  · exact ⟨h.onl.os, h.onl.tape, h.onl.output, by rw [set3_size]; exact h.onl.size, fun j hj hjb => (set3_other _ _ _ _ _ _ j (by omega)).trans (h.onl.block j hj hjb)⟩

/-- Grow, however many. -/
theorem grow_any (n : Nat) (w : World) (hn : n ≤ 1048576) (base : Nat) (hb : base ≤ w.heap.size) : Calls Tryz.prog 59 #[.slice none 0 0, .int .i64 n] w fun e w' => ∃ a c, e = .returned (.slice a 0 c) ∧ w'.ownsRow base 28 3 (.slice a 0 c) 0 [] ∧ (∀ g, (Value.slice a 0 c).ownBlock = some g → w.heap.size ≤ g) ∧ Below w.heap.size w w' := by
  by_cases h0 : n = 0
  · subst h0
    refine (grow_zero w).mono ?_
    rintro e w' ⟨he, rfl⟩
    exact ⟨none, 0, he, World.ownsRow_nil _ _ _ _, fun g hg => (by cases hg), Below.refl _ _⟩
  · exact (grow_some n w (by omega) hn base hb).mono fun e w' ⟨c, he, ho, hbel⟩ => ⟨_, c, he, ho, fun g hg => (by cases hg; exact Nat.le_refl _), hbel⟩

end Go.Proofs.YtgnjgpplelakkaaGreat
