import Derived.Test.YtgnjgpplelakkaaGreatLM
import Derived.Test.YtgnjgpplelakkaaGreatLV

/-
  Rows of literals that are told one by one.
-/
namespace Go.Proofs.YtgnjgpplelakkaaGreat
open Go.RowKit Go.Maps

theorem Tryz.info40 : (Tryz.prog.info? 40).map (fun i => (i.zero, i.size, i.bytes)) = some (some (.agg #[.bool false, .int .i64 0, .string ⟨#[]⟩, .slice none 0 0, .int .i64 0, .string ⟨#[]⟩, .slice none 0 0]), 7, 104) := by kernel_rfl

theorem set7_size (W : World) (b o : Nat) (v0 v1 v2 v3 v4 v5 v6 : Value) : (set7 W b o v0 v1 v2 v3 v4 v5 v6).heap.size = W.heap.size := by simp

theorem set7_far (W : World) (g o : Nat) (v0 v1 v2 v3 v4 v5 v6 : Value) (k : Nat) (h : k < o ∨ o + 6 < k) : (set7 W g o v0 v1 v2 v3 v4 v5 v6).cell? ⟨g, k, none⟩ = W.cell? ⟨g, k, none⟩ := by
  rw [World.cell?_setCell_other _ _ _ _ (by intro e; injection e with _ e2; omega), World.cell?_setCell_other _ _ _ _ (by intro e; injection e with _ e2; omega), World.cell?_setCell_other _ _ _ _ (by intro e; injection e with _ e2; omega), World.cell?_setCell_other _ _ _ _ (by intro e; injection e with _ e2; omega), World.cell?_setCell_other _ _ _ _ (by intro e; injection e with _ e2; omega), World.cell?_setCell_other _ _ _ _ (by intro e; injection e with _ e2; omega), World.cell?_setCell_other _ _ _ _ (by intro e; injection e with _ e2; omega)]

theorem set7_blk (W : World) (g o : Nat) (arr : Array Value) (h : W.heap[g]? = some (.cells arr 40 (0, 0))) (ho : o + 6 < arr.size) (v0 v1 v2 v3 v4 v5 v6 : Value) : ∃ arr', (set7 W g o v0 v1 v2 v3 v4 v5 v6).heap[g]? = some (.cells arr' 40 (0, 0)) ∧ arr'.size = arr.size ∧ arr'[o]? = some v0 ∧ arr'[o + 1]? = some v1 ∧ arr'[o + 2]? = some v2 ∧ arr'[o + 3]? = some v3 ∧ arr'[o + 4]? = some v4 ∧ arr'[o + 5]? = some v5 ∧ arr'[o + 6]? = some v6 := by
  have e0 := heap_setCell_same W g o arr 40 v0 h
  have e1 := heap_setCell_same _ g (o + 1) _ 40 v1 e0
  have e2 := heap_setCell_same _ g (o + 2) _ 40 v2 e1
  have e3 := heap_setCell_same _ g (o + 3) _ 40 v3 e2
  have e4 := heap_setCell_same _ g (o + 4) _ 40 v4 e3
  have e5 := heap_setCell_same _ g (o + 5) _ 40 v5 e4
  have e6 := heap_setCell_same _ g (o + 6) _ 40 v6 e5
  refine ⟨_, e6, by simp, ?_, ?_, ?_, ?_, ?_, ?_, ?_⟩ <;> simp [Array.getElem?_setIfInBounds] <;> omega

/-- A row of literals, the first i of which are told. -/
structure RowL (g n i : Nat) (f : Nat → Lt) (W : World) : Prop where
  blk : ∃ arr, W.heap[g]? = some (.cells arr 40 (0, 0)) ∧ arr.size = n * 7
  el : ∀ j, j < i → ∃ s r, (W.cell? ⟨g, j * 7, none⟩ = some (.bool (f j).neg) ∧ W.cell? ⟨g, j * 7 + 1, none⟩ = some (.int .i64 (f j).l.v) ∧ W.cell? ⟨g, j * 7 + 2, none⟩ = some (.string (f j).l.fn) ∧ W.cell? ⟨g, j * 7 + 3, none⟩ = some s ∧ W.cell? ⟨g, j * 7 + 4, none⟩ = some (.int .i64 (f j).r.v) ∧ W.cell? ⟨g, j * 7 + 5, none⟩ = some (.string (f j).r.fn) ∧ W.cell? ⟨g, j * 7 + 6, none⟩ = some r) ∧ ArgsP (fun x => g + 1 ≤ x) W s (f j).l.args ∧ ArgsP (fun x => g + 1 ≤ x) W r (f j).r.args

theorem RowL.keep {g n i : Nat} {f : Nat → Lt} {W W' : World} (h : RowL g n i f W) (hs : W.heap.size ≤ W'.heap.size) (hk : ∀ k, g ≤ k → k < W.heap.size → W'.heap[k]? = W.heap[k]?) : RowL g n i f W' := by
  obtain ⟨arr, h1, h2⟩ := h.blk
  have hlt : g < W.heap.size := (Array.getElem?_eq_some_iff.1 h1).1
  have hg := hk g (Nat.le_refl _) hlt
  have cb : ∀ o, W'.cell? ⟨g, o, none⟩ = W.cell? ⟨g, o, none⟩ := fun o => by simp [World.cell?, hg]
  refine ⟨⟨arr, hg.trans h1, h2⟩, fun j hj => ?_⟩
  obtain ⟨s, r, hc, hs1, hr1⟩ := h.el j hj
  exact ⟨s, r, by simpa only [cb] using hc, hs1.keep hs (fun k hk1 hk2 => ⟨hk1, hk k (by omega) hk2⟩), hr1.keep hs (fun k hk1 hk2 => ⟨hk1, hk k (by omega) hk2⟩)⟩

theorem RowL.facts {g n i : Nat} {f : Nat → Lt} {W : World} (h : RowL g n i f W) (hi : i < n) : g < W.heap.size ∧ (∃ v0 v1 v2 v3 v4 v5 v6, W.cell? ⟨g, i * 7, none⟩ = some v0 ∧ W.cell? ⟨g, i * 7 + 1, none⟩ = some v1 ∧ W.cell? ⟨g, i * 7 + 2, none⟩ = some v2 ∧ W.cell? ⟨g, i * 7 + 3, none⟩ = some v3 ∧ W.cell? ⟨g, i * 7 + 4, none⟩ = some v4 ∧ W.cell? ⟨g, i * 7 + 5, none⟩ = some v5 ∧ W.cell? ⟨g, i * 7 + 6, none⟩ = some v6) ∧ ∀ k, W.frozen? ⟨g, k, none⟩ = false := by
  obtain ⟨arr, h1, h2⟩ := h.blk
  refine ⟨(Array.getElem?_eq_some_iff.1 h1).1, ⟨arr[i * 7]'(by omega), arr[i * 7 + 1]'(by omega), arr[i * 7 + 2]'(by omega), arr[i * 7 + 3]'(by omega), arr[i * 7 + 4]'(by omega), arr[i * 7 + 5]'(by omega), arr[i * 7 + 6]'(by omega), ?_, ?_, ?_, ?_, ?_, ?_, ?_⟩, fun k => ?_⟩
  all_goals first | (rw [cell_of_row _ _ _ _ 40 (0, 0) h1]; exact Array.getElem?_eq_getElem _) | simp [World.frozen?, h1]

theorem RowL.step {g n i : Nat} {f : Nat → Lt} {W : World} (h : RowL g n i f W) (hi : i < n) (s r : Value) (hs : ArgsP (fun x => g + 1 ≤ x) W s (f i).l.args) (hr : ArgsP (fun x => g + 1 ≤ x) W r (f i).r.args) : RowL g n (i + 1) f (set7 W g (i * 7) (.bool (f i).neg) (.int .i64 (f i).l.v) (.string (f i).l.fn) s (.int .i64 (f i).r.v) (.string (f i).r.fn) r) := by
  obtain ⟨arr, h1, h2⟩ := h.blk
  obtain ⟨arr', e1, e2, c0, c1, c2, c3, c4, c5, c6⟩ := set7_blk W g (i * 7) arr h1 (by omega) (.bool (f i).neg) (.int .i64 (f i).l.v) (.string (f i).l.fn) s (.int .i64 (f i).r.v) (.string (f i).r.fn) r
  have kp : ∀ {s' l}, ArgsP (fun x => g + 1 ≤ x) W s' l → ArgsP (fun x => g + 1 ≤ x) (set7 W g (i * 7) (.bool (f i).neg) (.int .i64 (f i).l.v) (.string (f i).l.fn) s (.int .i64 (f i).r.v) (.string (f i).r.fn) r) s' l := fun hh => hh.keep (by simp) (fun k hk _ => ⟨hk, set7_other _ _ _ _ _ _ _ _ _ _ k (by omega)⟩)
  refine ⟨⟨arr', e1, by omega⟩, fun j hj => ?_⟩
  by_cases e : j = i
  · subst e
    refine ⟨s, r, ⟨?_, ?_, ?_, ?_, ?_, ?_, ?_⟩, kp hs, kp hr⟩ <;> rw [cell_of_row _ _ _ _ 40 (0, 0) e1] <;> assumption
  · obtain ⟨s', r', ⟨d0, d1, d2, d3, d4, d5, d6⟩, hs', hr'⟩ := h.el j (by omega)
    exact ⟨s', r', ⟨(set7_far _ _ _ _ _ _ _ _ _ _ _ (by omega)).trans d0, (set7_far _ _ _ _ _ _ _ _ _ _ _ (by omega)).trans d1, (set7_far _ _ _ _ _ _ _ _ _ _ _ (by omega)).trans d2, (set7_far _ _ _ _ _ _ _ _ _ _ _ (by omega)).trans d3, (set7_far _ _ _ _ _ _ _ _ _ _ _ (by omega)).trans d4, (set7_far _ _ _ _ _ _ _ _ _ _ _ (by omega)).trans d5, (set7_far _ _ _ _ _ _ _ _ _ _ _ (by omega)).trans d6⟩, kp hs', kp hr'⟩

theorem RowL.clause {g n : Nat} {f : Nat → Lt} {W : World} (h : RowL g n n f W) (hn : n ≤ 9223372036854775807) : ClauseAt W (.slice (some ⟨g, 0, none⟩) n n) ((List.range n).map f) := by
  obtain ⟨arr, h1, _⟩ := h.blk
  have hlt : g < W.heap.size := (Array.getElem?_eq_some_iff.1 h1).1
  refine ⟨some ⟨g, 0, none⟩, n, by simp, by simp, hn, fun _ => ⟨g, 0, rfl, fun i hi => ?_⟩⟩
  have hi' : i < n := by simpa using hi
  obtain ⟨s, r, ⟨c0, c1, c2, c3, c4, c5, c6⟩, hs, hr⟩ := h.el i hi'
  simp only [List.getElem_map, List.getElem_range, Nat.zero_add]
  exact ⟨s, r, hlt, c0, c1, c2, c3, c4, c5, c6, hs.args, hr.args⟩

end Go.Proofs.YtgnjgpplelakkaaGreat

/-
  lits.rebuilt: a clause side by side.
-/
namespace Go.Proofs.YtgnjgpplelakkaaGreat
open Go.RowKit Go.Maps

/-- What a function makes of one side: u, or an error. -/
def BuildsAt (fb : Nat) (lb : Array Value) (B : List Nat) (J : Nat → World → Prop) (W0 : World) (M k : Nat) (t u : T) (E : Int) : Prop :=
  ∀ (s : Value) (X : World), J k X → Below W0.heap.size W0 X → M ≤ X.heap.size → ArgsAt W0 s t.args → Calls Tryz.prog fb (#[tval t s] ++ lb) X fun e X' => ∃ q a' n' c', e = .returned (.tuple #[tval q (.slice a' n' c'), .int .i64 E]) ∧ (E = 0 → q = u ∧ n' = u.args.length ∧ ArgsP (fun x => X.heap.size ≤ x) X' (.slice a' n' c') u.args ∧ J (k + 1) X') ∧ Only B X X'

/-- What stands in rebuilt's loop. -/
structure RbI (B : List Nat) (J : Nat → World → Prop) (w : World) (n i : Nat) (f : Nat → Lt) (W : World) : Prop where
  row : RowL w.heap.size n i f W
  j : J (2 * i) W
  onl : Only B w W
  siz : w.heap.size + 1 ≤ W.heap.size

theorem Only.up {B : List Nat} {x y z : World} (h : Only B x y) (hb : Below y.heap.size y z) : Only B x z :=
  h.trans (B' := B) (Only.of_below hb) (fun _ hr => .inl hr)

theorem only_cell {B : List Nat} {X Y : World} (h : Only B X Y) {b o : Nat} {v : Value} (hb : b < X.heap.size) (hn : b ∉ B) (c : X.cell? ⟨b, o, none⟩ = some v) : Y.cell? ⟨b, o, none⟩ = some v := by
  have := h.block b hb hn
  rw [← c]
  simp [World.cell?, this]

theorem Only.setCell {B : List Nat} {w W : World} (h : Only B w W) {b : Nat} (o : Nat) (v : Value) (hb : w.heap.size ≤ b) : Only B w (W.setCell ⟨b, o, none⟩ v) :=
  ⟨by rw [show (W.setCell ⟨b, o, none⟩ v).os = W.os from rfl, h.os], by rw [show (W.setCell ⟨b, o, none⟩ v).tape = W.tape from rfl, h.tape], by rw [show (W.setCell ⟨b, o, none⟩ v).output = W.output from rfl, h.output], by simpa using h.size, fun k hk hkb => (Below.heap_setCell _ _ _ k (by show k ≠ b; omega)).trans (h.block k hk hkb)⟩

theorem Only.set7 {B : List Nat} {w W : World} (h : Only B w W) (b o : Nat) (v0 v1 v2 v3 v4 v5 v6 : Value) (hb : w.heap.size ≤ b) : Only B w (set7 W b o v0 v1 v2 v3 v4 v5 v6) :=
  ((((((h.setCell o v0 hb).setCell (o + 1) v1 hb).setCell (o + 2) v2 hb).setCell (o + 3) v3 hb).setCell (o + 4) v4 hb).setCell (o + 5) v5 hb).setCell (o + 6) v6 hb

set_option maxRecDepth 100000 in
set_option maxHeartbeats 8000000 in
theorem rebuilt_any (fb : Nat) (lb : Array Value) (eg : ∀ args w, (callFunc fb args).run Tryz.prog w = .ok (.enter fb args) w) (B : List Nat) (J : Nat → World → Prop) (W0 : World) (l : List Lt) (f : Nat → Lt) (er : Nat → Int) (v : Value) (w : World) (hw : Below W0.heap.size W0 w) (hcl : ClauseAt W0 v l) (hlen : l.length ≤ 1048576) (hB : ∀ r ∈ B, W0.heap.size ≤ r ∧ r < w.heap.size) (hJ0 : J 0 w)
    (hJk : ∀ k X X', J k X → w.heap.size ≤ X.heap.size → X.heap.size ≤ X'.heap.size → (∀ r, r < w.heap.size → X'.heap[r]? = X.heap[r]?) → J k X')
    (hbL : ∀ i (h : i < l.length), BuildsAt fb lb B J W0 w.heap.size (2 * i) l[i].l (f i).l (er (2 * i)))
    (hbR : ∀ i (h : i < l.length), BuildsAt fb lb B J W0 w.heap.size (2 * i + 1) l[i].r (f i).r (er (2 * i + 1)))
    (hneg : ∀ i (h : i < l.length), (f i).neg = l[i].neg) :
    Calls Tryz.prog 20 #[v, .func (.func fb) #[] lb] w fun e W' => ((∃ v', e = .returned (.tuple #[v', .int .i64 0]) ∧ ClauseAt W' v' ((List.range l.length).map f) ∧ J (2 * l.length) W' ∧ ∀ k, k < 2 * l.length → er k = 0) ∨ (∃ k, k < 2 * l.length ∧ er k ≠ 0 ∧ (∀ j, j < k → er j = 0) ∧ e = .returned (.tuple #[.slice none 0 0, .int .i64 (er k)]))) ∧ Only B w W' := by
  obtain ⟨a, c, rfl⟩ := hcl.slice
  obtain ⟨i0, hi, hz0, hz1, hz2⟩ := info_parts Tryz.info40
  obtain ⟨arr, harr⟩ : ∃ arr, madeCells (Value.agg #[.bool false, .int .i64 0, .string ⟨#[]⟩, .slice none 0 0, .int .i64 0, .string ⟨#[]⟩, .slice none 0 0]).cells (l.length * 7) = arr := ⟨_, rfl⟩
  have hs : arr.size = l.length * 7 := by rw [← harr]; simp [madeCells]
  have hmk : ∀ W : World, (Instr.makeSlice 24 (.int .i64 l.length) (.int .i64 l.length)).run Tryz.prog W = .ok (.slice (some ⟨W.heap.size, 0, none⟩) l.length l.length) (W.alloc (.cells arr 40)) := by
    intro W
    have := run_make (P := Tryz.prog) W 24 40 i0 _ Tryz.underlying24 hi hz0 .i64 .i64 l.length l.length (by omega) (Int.le_refl _) (by rw [hz2]; omega) (by omega)
    rw [hz1] at this
    simp only [Int.toNat_natCast, harr] at this
    exact this
  have HI0 : Hid (RbI B J w l.length 0 f (w.alloc (.cells arr 40))) := by
    refine ⟨⟨⟨arr, (MapKept.heap_alloc w _).1, hs⟩, fun j hj => absurd hj (by omega)⟩, hJk _ _ _ hJ0 (Nat.le_refl _) (by simp) (fun r hr => Below.heap_alloc w _ r hr), Only.of_below (below_box w _), by simp⟩
  have HCL : Hid (ClauseAt W0 (.slice a l.length c) l) := hcl
  have HBL : Hid (∀ i (h : i < l.length), BuildsAt fb lb B J W0 w.heap.size (2 * i) l[i].l (f i).l (er (2 * i))) := hbL
  have HBR : Hid (∀ i (h : i < l.length), BuildsAt fb lb B J W0 w.heap.size (2 * i + 1) l[i].r (f i).r (er (2 * i + 1))) := hbR
  have HNG : Hid (∀ i (h : i < l.length), (f i).neg = l[i].neg) := hneg
  have HBB : Hid (∀ r ∈ B, W0.heap.size ≤ r ∧ r < w.heap.size) := hB
  have HJK : Hid (∀ k X X', J k X → w.heap.size ≤ X.heap.size → X.heap.size ≤ X'.heap.size → (∀ r, r < w.heap.size → X'.heap[r]? = X.heap[r]?) → J k X') := hJk
  clear hcl hbL hbR hneg hB hJk hJ0 hi hz0 hz1 hz2 harr hs
  go_enter Tryz.func20, Tryz.ntmps20
  go_wp2
  go_loopw [17] (fun vi wr => ∃ i : Nat, vi = .int .i64 i ∧ i ≤ l.length ∧ RbI B J w l.length i f wr ∧ ∀ k, k < 2 * i → er k = 0) (fun vi _ => l.length - (intOf vi).toNat)
  case atStart => exact ⟨0, rfl, Nat.zero_le _, HI0.out, fun k hk => absurd hk (by omega)⟩
  case round =>
    obtain ⟨i, rfl, hi, hI, her⟩ := hrel
    have hWr : Below W0.heap.size W0 wr := hw.trans (hI.onl.below hw.size (fun r hr => (HBB.out r hr).1))
    by_cases hlt : i < l.length
    · obtain ⟨bb, o, sl, sr, e1, hX0⟩ := HCL.out.nth hlt
      cases e1
      have hX := hX0.keep hWr
      have hb1 := below_box wr (lbox l[i] sl sr)
      have hL1 := lbox_at wr l[i] sl sr hX.al hX.ar
      have hcL := HBL.out i hlt sl (wr.alloc (lbox l[i] sl sr)) (HJK.out _ _ _ hI.j hI.onl.size hb1.size (fun r hr => hb1.block r (by have := hI.siz; omega))) (hWr.trans (hb1.mono hWr.size)) (by have := hI.siz; simp; omega) hX0.al
      have hcR := HBR.out i hlt sr
      have hng := HNG.out i hlt
      have har0 := hX0.ar
      have hal0 := hX0.al
      have hnB : ∀ g, w.heap.size ≤ g → g ∉ B := fun g hg hm => by have := (HBB.out g hm).2; omega
      obtain ⟨x, hx⟩ : ∃ x, l[i] = x := ⟨_, rfl⟩
      simp only [hx] at hX hL1 hcL hcR hng har0 hal0 hb1
      obtain ⟨c0, c1, c2, c3, c4, c5, c6⟩ : wr.cell? ⟨bb, o + i * 7, none⟩ = some (.bool x.neg) ∧ wr.cell? ⟨bb, o + i * 7 + 1, none⟩ = some (.int .i64 x.l.v) ∧ wr.cell? ⟨bb, o + i * 7 + 2, none⟩ = some (.string x.l.fn) ∧ wr.cell? ⟨bb, o + i * 7 + 3, none⟩ = some sl ∧ wr.cell? ⟨bb, o + i * 7 + 4, none⟩ = some (.int .i64 x.r.v) ∧ wr.cell? ⟨bb, o + i * 7 + 5, none⟩ = some (.string x.r.fn) ∧ wr.cell? ⟨bb, o + i * 7 + 6, none⟩ = some sr := ⟨hX.c0, hX.c1, hX.c2, hX.c3, hX.c4, hX.c5, hX.c6⟩
      obtain ⟨k0, k1, k2, k3, k4, k5, k6⟩ := hL1.zero
      obtain ⟨la, lc, rfl, _⟩ := hX.al.slice
      obtain ⟨ra, rc, rfl, _⟩ := hX.ar.slice
      have i0' : (i : Int) < (l.length : Int) := by omega
      have i1' : (0 : Int) ≤ (i : Int) := by omega
      have HI : Hid (RbI B J w l.length i f wr ∧ Below W0.heap.size W0 wr) := ⟨hI, hWr⟩
      have HO1 : Hid (Only B wr (wr.alloc (lbox x (.slice la x.l.args.length lc) (.slice ra x.r.args.length rc)))) := Only.of_below hb1
      have HNB : Hid (∀ g, w.heap.size ≤ g → g ∉ B) := hnB
      have HAR : Hid (ArgsAt W0 (.slice ra x.r.args.length rc) x.r.args) := har0
      have HER : Hid (∀ k, k < 2 * i → er k = 0) := her
      clear hX hX0 hL1 hI hWr hb1 hx har0 hal0 hnB her
      generalize hEL : er (2 * i) = EL at *
      generalize hER : er (2 * i + 1) = ER at *
      by_cases hEl : EL = 0
      · have hElb : (EL != 0) = false := by rw [bne_eq_false_iff_eq]; exact hEl
        by_cases hEr : ER = 0
        · have hErb : (ER != 0) = false := by rw [bne_eq_false_iff_eq]; exact hEr
          have HEE : Hid (∀ k, k < 2 * (i + 1) → er k = 0) := fun k hk => by
            by_cases h1 : k < 2 * i
            · exact HER.out k h1
            · by_cases h2 : k = 2 * i
              · subst h2; rw [hEL, hEl]
              · have : k = 2 * i + 1 := by omega
                subst this; rw [hER, hEr]
          clear hEL hER
          go_wp2_with (first
            | (go_at_fn fb; refine hcR2.mono ?_; rintro e W4 ⟨q2, a2, n2, d2, rfl, hok2, hO4⟩; obtain ⟨rfl, rfl, hA4, hJ4⟩ := hok2 hEr; have hb5 := below_box W4 (tbox (f i).r (.slice a2 (f i).r.args.length d2)); have HO5 : Hid (Only B wr (W4.alloc (tbox (f i).r (.slice a2 (f i).r.args.length d2)))) := (HO3.out.trans (B' := B) hO4 (fun _ hr => .inl hr)).up hb5; have hO45 := hO4.up hb5; have hsz3 := HS3.out; have m0 := only_cell hO45 (by simp; omega) (HNB.out _ (by have := HI.out.1.onl.size; omega)) k03; have m7 := only_cell hO45 (by simp) (HNB.out _ (by have := HI.out.1.onl.size; omega)) t03; have m8 := only_cell hO45 (by simp) (HNB.out _ (by have := HI.out.1.onl.size; omega)) t13; have m9 := only_cell hO45 (by simp) (HNB.out _ (by have := HI.out.1.onl.size; omega)) t23; obtain ⟨u0, u1, u2⟩ := tbox_cells W4 (f i).r (.slice a2 (f i).r.args.length d2); have hrow5 : RowL w.heap.size l.length i f (W4.alloc (tbox (f i).r (.slice a2 (f i).r.args.length d2))) := HI.out.1.row.keep HO5.out.size (fun k hk hk2 => HO5.out.block k hk2 (HNB.out k hk)); obtain ⟨hgl, ⟨y0, y1, y2, y3, y4, y5, y6, g0, g1, g2, g3, g4, g5, g6⟩, hfz⟩ := hrow5.facts hlt; have z0 := hfz (i * 7); have z1 := hfz (i * 7 + 1); have z2 := hfz (i * 7 + 2); have z3 := hfz (i * 7 + 3); have z4 := hfz (i * 7 + 4); have z5 := hfz (i * 7 + 5); have z6 := hfz (i * 7 + 6); have HF5 : Hid (RowL w.heap.size l.length i f (W4.alloc (tbox (f i).r (.slice a2 (f i).r.args.length d2))) ∧ ArgsP (fun x => w.heap.size + 1 ≤ x) (W4.alloc (tbox (f i).r (.slice a2 (f i).r.args.length d2))) (.slice a1 (f i).l.args.length d1) (f i).l.args ∧ ArgsP (fun x => w.heap.size + 1 ≤ x) (W4.alloc (tbox (f i).r (.slice a2 (f i).r.args.length d2))) (.slice a2 (f i).r.args.length d2) (f i).r.args ∧ J (2 * (i + 1)) (W4.alloc (tbox (f i).r (.slice a2 (f i).r.args.length d2)))) := ⟨hrow5, HA3.out.keep hO45.size (fun k hk hk2 => ⟨hk, hO45.block k hk2 (HNB.out k (by omega))⟩), hA4.keep hb5.size (fun k hk hk2 => ⟨by have := HI.out.1.siz; simp at hk; omega, hb5.block k hk2⟩), HJK.out _ _ _ hJ4 (by have := HO3.out.size; have := hO4.size; have := HI.out.1.onl.size; omega) hb5.size (fun r hr => hb5.block r (by have := HO3.out.size; have := hO4.size; have := HI.out.1.onl.size; omega))⟩; clear hA4 hJ4 hO4 hb5 hO45 hrow5 hfz)
            | (go_at_fn fb; refine hcL.mono ?_; rintro e W2 ⟨q1, a1, n1, d1, rfl, hok1, hO2⟩; obtain ⟨rfl, rfl, hA2, hJ2⟩ := hok1 hEl; have hb3 := below_box W2 (tbox (f i).l (.slice a1 (f i).l.args.length d1)); have hO23 := hO2.up hb3; have HO3 : Hid (Only B wr (W2.alloc (tbox (f i).l (.slice a1 (f i).l.args.length d1)))) := HO1.out.trans (B' := B) hO23 (fun _ hr => .inl hr); have hnb8 := HNB.out wr.heap.size HI.out.1.onl.size; have k03 := only_cell hO23 (by simp) hnb8 k0; have k43 := only_cell hO23 (by simp) hnb8 k4; have k53 := only_cell hO23 (by simp) hnb8 k5; have k63 := only_cell hO23 (by simp) hnb8 k6; obtain ⟨t03, t13, t23⟩ := tbox_cells W2 (f i).l (.slice a1 (f i).l.args.length d1); have hsW2 := hO2.size; have HS3 : Hid (wr.heap.size + 1 ≤ W2.heap.size) := (by simp at hsW2; exact hsW2); have HA3 : Hid (ArgsP (fun x => w.heap.size + 1 ≤ x) (W2.alloc (tbox (f i).l (.slice a1 (f i).l.args.length d1))) (.slice a1 (f i).l.args.length d1) (f i).l.args) := hA2.keep hb3.size (fun k hk hk2 => ⟨by have := HI.out.1.siz; simp at hk; omega, hb3.block k hk2⟩); have hcR2 := hcR (W2.alloc (tbox (f i).l (.slice a1 (f i).l.args.length d1))) (HJK.out _ _ _ hJ2 (by have := HI.out.1.onl.size; have := HS3.out; omega) hb3.size (fun r hr => hb3.block r (by have := HI.out.1.onl.size; have := HS3.out; omega))) (HI.out.2.trans (HO3.out.below HI.out.2.size (fun r hr => (HBB.out r hr).1))) (by have := HI.out.1.onl.size; have := HS3.out; simp; omega) HAR.out; clear hA2 hJ2 hb3 hO2 hO23 hsW2))
          go_roundw
          case rel =>
            refine ⟨i + 1, by go_num, by omega, ⟨?_, ?_, ?_, ?_⟩, HEE.out⟩
            · have := HF5.out.1.step hlt _ _ HF5.out.2.1 HF5.out.2.2.1
              rw [hng] at this
              exact this
            · exact HJK.out _ _ _ HF5.out.2.2.2 (Nat.le_trans HI.out.1.onl.size HO5.out.size) (Nat.le_of_eq (set7_size _ _ _ _ _ _ _ _ _ _).symm) (fun r hr => set7_other _ _ _ _ _ _ _ _ _ _ r (Nat.ne_of_lt hr))
            · exact (HI.out.1.onl.trans (B' := B) HO5.out (fun _ hr => .inl hr)).set7 _ _ _ _ _ _ _ _ _ (Nat.le_refl _)
            · exact Nat.le_trans (Nat.le_trans HI.out.1.siz HO5.out.size) (Nat.le_of_eq (set7_size _ _ _ _ _ _ _ _ _ _).symm)
          case measure => simp [intOf]; omega
        · have hErb : (ER != 0) = true := by rw [bne_iff_ne]; exact hEr
          have HEE : Hid (∃ k, k < 2 * l.length ∧ er k ≠ 0 ∧ (∀ j, j < k → er j = 0) ∧ er k = ER) := ⟨2 * i + 1, by omega, by rw [hER]; exact hEr, fun j hj => by
            by_cases h1 : j < 2 * i
            · exact HER.out j h1
            · have : j = 2 * i := by omega
              subst this; rw [hEL, hEl], hER⟩
          clear hEL hER
          go_wp2_with (first
            | (go_at_fn fb; refine hcR2.mono ?_; rintro e W4 ⟨q2, a2, n2, d2, rfl, _, hO4⟩; have hb5 := below_box W4 (tbox q2 (.slice a2 n2 d2)); have HO5 : Hid (Only B wr (W4.alloc (tbox q2 (.slice a2 n2 d2)))) := (HO3.out.trans (B' := B) hO4 (fun _ hr => .inl hr)).up hb5; clear hO4 hb5)
            | (go_at_fn fb; refine hcL.mono ?_; rintro e W2 ⟨q1, a1, n1, d1, rfl, hok1, hO2⟩; obtain ⟨rfl, rfl, hA2, hJ2⟩ := hok1 hEl; have hb3 := below_box W2 (tbox (f i).l (.slice a1 (f i).l.args.length d1)); have hO23 := hO2.up hb3; have HO3 : Hid (Only B wr (W2.alloc (tbox (f i).l (.slice a1 (f i).l.args.length d1)))) := HO1.out.trans (B' := B) hO23 (fun _ hr => .inl hr); have hnb8 := HNB.out wr.heap.size HI.out.1.onl.size; have k43 := only_cell hO23 (by simp) hnb8 k4; have k53 := only_cell hO23 (by simp) hnb8 k5; have k63 := only_cell hO23 (by simp) hnb8 k6; have hsW2 := hO2.size; have HS3 : Hid (wr.heap.size + 1 ≤ W2.heap.size) := (by simp at hsW2; exact hsW2); have hcR2 := hcR (W2.alloc (tbox (f i).l (.slice a1 (f i).l.args.length d1))) (HJK.out _ _ _ hJ2 (by have := HI.out.1.onl.size; have := HS3.out; omega) hb3.size (fun r hr => hb3.block r (by have := HI.out.1.onl.size; have := HS3.out; omega))) (HI.out.2.trans (HO3.out.below HI.out.2.size (fun r hr => (HBB.out r hr).1))) (by have := HI.out.1.onl.size; have := HS3.out; simp; omega) HAR.out; clear hA2 hJ2 hb3 hO2 hO23 hsW2))
          go_ret2
          obtain ⟨k, h1, h2, h3, h4⟩ := HEE.out
          exact ⟨.inr ⟨k, h1, h2, h3, by rw [h4]; rfl⟩, HI.out.1.onl.trans (B' := B) HO5.out (fun _ hr => .inl hr)⟩
      · have hElb : (EL != 0) = true := by rw [bne_iff_ne]; exact hEl
        have HEE : Hid (∃ k, k < 2 * l.length ∧ er k ≠ 0 ∧ (∀ j, j < k → er j = 0) ∧ er k = EL) := ⟨2 * i, by omega, by rw [hEL]; exact hEl, HER.out, hEL⟩
        clear hEL hER
        go_wp2_with (first
          | (go_at_fn fb; refine hcL.mono ?_; rintro e W2 ⟨q1, a1, n1, d1, rfl, _, hO2⟩; have hb3 := below_box W2 (tbox q1 (.slice a1 n1 d1)); have HO3 : Hid (Only B wr (W2.alloc (tbox q1 (.slice a1 n1 d1)))) := HO1.out.trans (B' := B) (hO2.up hb3) (fun _ hr => .inl hr); clear hO2 hb3))
        go_ret2
        obtain ⟨k, h1, h2, h3, h4⟩ := HEE.out
        exact ⟨.inr ⟨k, h1, h2, h3, by rw [h4]; rfl⟩, HI.out.1.onl.trans (B' := B) HO3.out (fun _ hr => .inl hr)⟩
    · have hil : i = l.length := by omega
      subst hil
      have HF : Hid (ClauseAt wr (.slice (some ⟨w.heap.size, 0, none⟩) l.length l.length) ((List.range l.length).map f) ∧ J (2 * l.length) wr ∧ Only B w wr ∧ ∀ k, k < 2 * l.length → er k = 0) := ⟨hI.row.clause (by omega), hI.j, hI.onl, her⟩
      clear hI her
      go_wp2
      go_ret2
      exact ⟨.inl ⟨_, rfl, HF.out.1, HF.out.2.1, HF.out.2.2.2⟩, HF.out.2.2.1⟩

end Go.Proofs.YtgnjgpplelakkaaGreat
