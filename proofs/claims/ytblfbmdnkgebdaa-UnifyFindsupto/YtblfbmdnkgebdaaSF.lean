/-
  subst.replaced, at every term.
-/
import Derived.Test.YtblfbmdnkgebdaaSE
import Derived.Deep.Slices
namespace Go.Proofs.Ytblfbmdnkgebdaa
open Go.RowKit

theorem Try.info24 : (Try.prog.info? 24).map (fun i => (i.zero, i.size, i.bytes)) = some (some (.agg #[.int .i64 0, .string ⟨#[]⟩, .slice none 0 0]), 3, 48) := by kernel_rfl

/-- A row of terms, the first i of which are told. -/
structure RowI (g n i : Nat) (f : Nat → T) (W : World) : Prop where
  blk : ∃ arr, W.heap[g]? = some (.cells arr 24 (0, 0)) ∧ arr.size = n * 3
  el : ∀ j, j < i → ∃ s, W.cell? ⟨g, j * 3, none⟩ = some (.int .i64 (f j).v) ∧ W.cell? ⟨g, j * 3 + 1, none⟩ = some (.string (f j).fn) ∧ W.cell? ⟨g, j * 3 + 2, none⟩ = some s ∧ ArgsFr (g + 1) W s (f j).args

theorem RowI.keep {g n i : Nat} {f : Nat → T} {W W' : World} (h : RowI g n i f W) (hb : Below W.heap.size W W') : RowI g n i f W' := by
  obtain ⟨arr, h1, h2⟩ := h.blk
  have hlt : g < W.heap.size := (Array.getElem?_eq_some_iff.1 h1).1
  refine ⟨⟨arr, (hb.block g hlt).trans h1, h2⟩, fun j hj => ?_⟩
  obtain ⟨s, c0, c1, c2, hs⟩ := h.el j hj
  exact ⟨s, kc hb hlt c0, kc hb hlt c1, kc hb hlt c2, hs.keep hb.size (fun k _ hk => hb.block k hk)⟩

theorem RowI.facts {g n i : Nat} {f : Nat → T} {W : World} (h : RowI g n i f W) (hi : i < n) : g < W.heap.size ∧ (∃ u v s, W.cell? ⟨g, i * 3, none⟩ = some u ∧ W.cell? ⟨g, i * 3 + 1, none⟩ = some v ∧ W.cell? ⟨g, i * 3 + 2, none⟩ = some s) ∧ W.frozen? ⟨g, i * 3, none⟩ = false ∧ W.frozen? ⟨g, i * 3 + 1, none⟩ = false ∧ W.frozen? ⟨g, i * 3 + 2, none⟩ = false := by
  obtain ⟨arr, h1, h2⟩ := h.blk
  refine ⟨(Array.getElem?_eq_some_iff.1 h1).1, ⟨arr[i * 3]'(by omega), arr[i * 3 + 1]'(by omega), arr[i * 3 + 2]'(by omega), ?_, ?_, ?_⟩, ?_, ?_, ?_⟩
  · rw [cell_of_row _ _ _ _ 24 (0, 0) h1]; exact Array.getElem?_eq_getElem _
  · rw [cell_of_row _ _ _ _ 24 (0, 0) h1]; exact Array.getElem?_eq_getElem _
  · rw [cell_of_row _ _ _ _ 24 (0, 0) h1]; exact Array.getElem?_eq_getElem _
  · simp [World.frozen?, h1]
  · simp [World.frozen?, h1]
  · simp [World.frozen?, h1]

theorem set3_cells (W : World) (g o : Nat) (u v s : Value) (h : ∃ a b c, W.cell? ⟨g, o, none⟩ = some a ∧ W.cell? ⟨g, o + 1, none⟩ = some b ∧ W.cell? ⟨g, o + 2, none⟩ = some c) :
    (set3 W g o u v s).cell? ⟨g, o, none⟩ = some u ∧ (set3 W g o u v s).cell? ⟨g, o + 1, none⟩ = some v ∧ (set3 W g o u v s).cell? ⟨g, o + 2, none⟩ = some s := by
  obtain ⟨a, b, c, h0, h1, h2⟩ := h
  have e1 : (W.setCell ⟨g, o, none⟩ u).cell? ⟨g, o + 1, none⟩ = some b := (World.cell?_setCell_other _ _ _ _ (by simp)).trans h1
  have e2 : ((W.setCell ⟨g, o, none⟩ u).setCell ⟨g, o + 1, none⟩ v).cell? ⟨g, o + 2, none⟩ = some c := (World.cell?_setCell_other _ _ _ _ (by simp)).trans ((World.cell?_setCell_other _ _ _ _ (by simp)).trans h2)
  refine ⟨?_, ?_, ?_⟩
  · rw [World.cell?_setCell_other _ _ _ _ (by simp), World.cell?_setCell_other _ _ _ _ (by simp)]
    exact World.cell?_setCell_same _ _ _ h0
  · rw [World.cell?_setCell_other _ _ _ _ (by simp)]
    exact World.cell?_setCell_same _ _ _ e1
  · exact World.cell?_setCell_same _ _ _ e2

theorem set3_far (W : World) (g o : Nat) (u v s : Value) (k : Nat) (h : k < o ∨ o + 2 < k) : (set3 W g o u v s).cell? ⟨g, k, none⟩ = W.cell? ⟨g, k, none⟩ := by
  rw [World.cell?_setCell_other _ _ _ _ (by intro e; injection e with _ e2; omega), World.cell?_setCell_other _ _ _ _ (by intro e; injection e with _ e2; omega), World.cell?_setCell_other _ _ _ _ (by intro e; injection e with _ e2; omega)]

theorem RowI.step {g n i : Nat} {f : Nat → T} {W : World} (h : RowI g n i f W) (hi : i < n) (s : Value) (hs : ArgsFr (g + 1) W s (f i).args) : RowI g n (i + 1) f (set3 W g (i * 3) (.int .i64 (f i).v) (.string (f i).fn) s) := by
  obtain ⟨arr, h1, h2⟩ := h.blk
  obtain ⟨_, hx, _⟩ := h.facts hi
  obtain ⟨c0, c1, c2⟩ := set3_cells W g (i * 3) (.int .i64 (f i).v) (.string (f i).fn) s hx
  have kp : ∀ {s' l}, ArgsFr (g + 1) W s' l → ArgsFr (g + 1) (set3 W g (i * 3) (.int .i64 (f i).v) (.string (f i).fn) s) s' l := fun hh => hh.keep (by simp) (fun k hk _ => set3_other _ _ _ _ _ _ k (by omega))
  refine ⟨?_, fun j hj => ?_⟩
  · have e1 := heap_setCell_same W g (i * 3) arr 24 (.int .i64 (f i).v) h1
    have e2 := heap_setCell_same _ g (i * 3 + 1) _ 24 (.string (f i).fn) e1
    have e3 := heap_setCell_same _ g (i * 3 + 2) _ 24 s e2
    exact ⟨_, e3, by simp [h2]⟩
  · by_cases e : j = i
    · subst e
      exact ⟨s, c0, c1, c2, kp hs⟩
    · obtain ⟨s', d0, d1, d2, hs'⟩ := h.el j (by omega)
      exact ⟨s', (set3_far _ _ _ _ _ _ _ (by omega)).trans d0, (set3_far _ _ _ _ _ _ _ (by omega)).trans d1, (set3_far _ _ _ _ _ _ _ (by omega)).trans d2, kp hs'⟩

theorem RowI.fr {g n : Nat} {l : List T} {f : Nat → T} {W : World} (h : RowI g n n f W) (hl : l.length = n) (hf : ∀ i (hi : i < l.length), l[i] = f i) (hn : n ≤ 9223372036854775807) : ArgsFr g W (.slice (some ⟨g, 0, none⟩) n n) l := by
  subst hl
  obtain ⟨arr, h1, _⟩ := h.blk
  have hlt : g < W.heap.size := (Array.getElem?_eq_some_iff.1 h1).1
  haveI : Inhabited Value := ⟨undef⟩
  obtain ⟨s, hs⟩ := Deep.choose_lt (fun j (hj : j < l.length) => h.el j hj)
  refine .mk (some ⟨g, 0, none⟩) l.length l s (Nat.le_refl _) hn (fun _ => ⟨g, 0, Nat.le_refl _, hlt, rfl, fun i hi => ?_⟩) (fun i hi => ?_)
  · obtain ⟨c0, c1, c2, _⟩ := hs i hi
    rw [hf i hi, Nat.zero_add]
    exact ⟨c0, c1, c2⟩
  · rw [hf i hi]
    exact (hs i hi).2.2.2.low (Nat.le_succ _)

set_option maxRecDepth 100000 in
set_option maxHeartbeats 2000000 in
/-- At a name alone. -/
theorem rep_nil (g : Nat) (lb : Array Value) (σ : Int → T) (t : T) (a : Option Addr) (c : Nat) (w : World) (h0 : t.fn.size ≠ 0) (hn : t.args = []) :
    Calls Try.prog 45 #[tval t (.slice a 0 c), .func (.func g) #[] lb] w fun e W' => ∃ sl, e = .returned (tval (t.app σ) sl) ∧ ArgsFr w.heap.size W' sl (t.app σ).args ∧ Below w.heap.size w W' := by
  have hap : t.app σ = .mk 0 t.fn [] := by rw [T.app_eq, if_neg h0, hn]; rfl
  rw [hap]
  have hdd : t.fn.toList.isEmpty = false := by rw [ba_isEmpty]; exact decide_eq_false h0
  obtain ⟨t0, t1, t2⟩ := tbox_cells w t (.slice a 0 c)
  have hbb := below_box (w.alloc (tbox t (.slice a 0 c))) (.cells #[.int .i64 0, .string ⟨#[]⟩, .slice none 0 0] 24)
  have t0' := kc hbb (by simp) t0
  have t1' := kc hbb (by simp) t1
  have t2' := kc hbb (by simp) t2
  clear t0 t1 t2 hbb hap h0 hn
  go_enter Try.func45, Try.ntmps45
  go_wp2
  refine bodyPost_ret (v := tval (.mk 0 t.fn []) (.slice none 0 0)) (by simp [results, Try.results45, go_sem, *, T.v, T.fn]) rfl ⟨_, rfl, ArgsFr.nil _ _, ?_⟩
  first | exact set3_below (below_box2 w _ _) _ 0 _ _ _ (Nat.le_succ _) | exact below_box2 w _ _

/-- What replaced does at a term. -/
def RepAt (W0 : World) (g : Nat) (lb : Array Value) (σ : Int → T) (t : T) : Prop :=
  ∀ (sl : Value) (w : World), Below W0.heap.size W0 w → ArgsAt w sl t.args → t.shape = true →
    Calls Try.prog 45 #[tval t sl, .func (.func g) #[] lb] w fun e W' => ∃ sl', e = .returned (tval (t.app σ) sl') ∧ ArgsFr w.heap.size W' sl' (t.app σ).args ∧ Below w.heap.size w W'

/-- What stands in the loop. -/
structure LoopI (w W1 : World) (t : T) (f : Nat → T) (i : Nat) (W : World) : Prop where
  row : RowI (w.heap.size + 1 + 1) t.args.length i f W
  bel : Below (w.heap.size + 1 + 1) W1 W
  siz : w.heap.size + 3 ≤ W.heap.size

theorem LoopI.al {w W1 : World} {t : T} {f : Nat → T} {i : Nat} {W : World} (h : LoopI w W1 t f i W) {W' : World} (hb : Below W.heap.size W W') : LoopI w W1 t f i W' :=
  ⟨h.row.keep hb, h.bel.trans (hb.mono (by have := h.siz; omega)), Nat.le_trans h.siz hb.size⟩

set_option maxRecDepth 100000 in
set_option maxHeartbeats 4000000 in
/-- At a name with arguments. -/
theorem rep_args (W0 : World) (g : Nat) (lb : Array Value) (σ : Int → T) (t : T) (ih : ∀ a ∈ t.args, RepAt W0 g lb σ a) (a : Option Addr) (c : Nat) (w : World) (hw : Below W0.heap.size W0 w) (ha : ArgsAt w (.slice a t.args.length c) t.args) (hsh : t.shape = true) (h0 : t.fn.size ≠ 0) (hn : 0 < t.args.length) :
    Calls Try.prog 45 #[tval t (.slice a t.args.length c), .func (.func g) #[] lb] w fun e W' => ∃ sl, e = .returned (tval (t.app σ) sl) ∧ ArgsFr w.heap.size W' sl (t.app σ).args ∧ Below w.heap.size w W' := by
  have hap : t.app σ = .mk 0 t.fn (t.args.map (T.app σ)) := by rw [T.app_eq, if_neg h0]
  have hdd : t.fn.toList.isEmpty = false := by rw [ba_isEmpty]; exact decide_eq_false h0
  have h16 : t.args.length ≤ 16 ∧ t.args.all T.shape = true := by
    rw [T.shape_eq, if_neg h0] at hsh
    simp only [Bool.and_eq_true, decide_eq_true_eq] at hsh
    exact ⟨hsh.1.2, hsh.2⟩
  obtain ⟨h16, hall⟩ := h16
  have HAll : Hid (∀ x ∈ t.args, x.shape = true) := List.all_eq_true.1 hall
  obtain ⟨t0, t1, t2⟩ := tbox_cells w t (.slice a t.args.length c)
  have hbb := below_box (w.alloc (tbox t (.slice a t.args.length c))) (.cells #[.int .i64 0, .string ⟨#[]⟩, .slice none 0 0] 24)
  have t0' := kc hbb (by simp) t0
  have t1' := kc hbb (by simp) t1
  have t2' := kc hbb (by simp) t2
  have hz : ((w.alloc (tbox t (.slice a t.args.length c))).alloc (.cells #[.int .i64 0, .string ⟨#[]⟩, .slice none 0 0] 24)).heap[w.heap.size + 1]? = some (.cells #[.int .i64 0, .string ⟨#[]⟩, .slice none 0 0] 24 (0, 0)) := by
    have := (MapKept.heap_alloc (w.alloc (tbox t (.slice a t.args.length c))) (.cells #[.int .i64 0, .string ⟨#[]⟩, .slice none 0 0] 24)).1
    rw [World.size_alloc] at this
    exact this
  have hb2 : Below w.heap.size w ((w.alloc (tbox t (.slice a t.args.length c))).alloc (.cells #[.int .i64 0, .string ⟨#[]⟩, .slice none 0 0] 24)) := below_box2 w _ _
  have hS2 : ((w.alloc (tbox t (.slice a t.args.length c))).alloc (.cells #[.int .i64 0, .string ⟨#[]⟩, .slice none 0 0] 24)).heap.size = w.heap.size + 1 + 1 := by simp
  obtain ⟨i0, hi, hz0, hz1, hz2⟩ := info_parts Try.info24
  obtain ⟨arr, harr⟩ : ∃ arr, madeCells (Value.agg #[.int .i64 0, .string ⟨#[]⟩, .slice none 0 0]).cells (t.args.length * 3) = arr := ⟨_, rfl⟩
  have hs : arr.size = t.args.length * 3 := by rw [← harr]; simp [madeCells]
  have hmk : ∀ W : World, (Instr.makeSlice 22 (.int .i64 t.args.length) (.int .i64 t.args.length)).run Try.prog W = .ok (.slice (some ⟨W.heap.size, 0, none⟩) t.args.length t.args.length) (W.alloc (.cells arr 24)) := by
    intro W
    have := run_make (P := Try.prog) W 22 24 i0 _ Try.underlying22 hi hz0 .i64 .i64 t.args.length t.args.length (by omega) (Int.le_refl _) (by rw [hz2]; omega) (by omega)
    rw [hz1] at this
    simp only [Int.toNat_natCast, harr] at this
    exact this
  have HA : Hid (ArgsAt w (.slice a t.args.length c) t.args) := ha
  obtain ⟨f, hf⟩ : ∃ f : Nat → T, ∀ j (hj : j < t.args.length), t.args[j].app σ = f j := ⟨fun j => ((t.args[j]?).map (T.app σ)).getD t, fun j hj => by simp [hj]⟩
  have HF : Hid (∀ j (hj : j < t.args.length), t.args[j].app σ = f j) := hf
  have HI0 : Hid (LoopI w (((w.alloc (tbox t (.slice a t.args.length c))).alloc (.cells #[.int .i64 0, .string ⟨#[]⟩, .slice none 0 0] 24)).alloc (.cells arr 24)) t f 0 (((w.alloc (tbox t (.slice a t.args.length c))).alloc (.cells #[.int .i64 0, .string ⟨#[]⟩, .slice none 0 0] 24)).alloc (.cells arr 24))) := by
    refine ⟨⟨⟨arr, ?_, hs⟩, fun j hj => absurd hj (by omega)⟩, Below.refl _ _, by simp⟩
    have := (MapKept.heap_alloc ((w.alloc (tbox t (.slice a t.args.length c))).alloc (.cells #[.int .i64 0, .string ⟨#[]⟩, .slice none 0 0] 24)) (.cells arr 24)).1
    rw [World.size_alloc, World.size_alloc] at this
    exact this
  have hb3 := below_box ((w.alloc (tbox t (.slice a t.args.length c))).alloc (.cells #[.int .i64 0, .string ⟨#[]⟩, .slice none 0 0] 24)) (.cells arr 24)
  have HZ : Hid ((((w.alloc (tbox t (.slice a t.args.length c))).alloc (.cells #[.int .i64 0, .string ⟨#[]⟩, .slice none 0 0] 24)).alloc (.cells arr 24)).heap[w.heap.size + 1]? = some (.cells #[.int .i64 0, .string ⟨#[]⟩, .slice none 0 0] 24 (0, 0)) ∧ (((w.alloc (tbox t (.slice a t.args.length c))).alloc (.cells #[.int .i64 0, .string ⟨#[]⟩, .slice none 0 0] 24)).alloc (.cells arr 24)).cell? ⟨w.heap.size, 1, none⟩ = some (.string t.fn) ∧ Below w.heap.size w (((w.alloc (tbox t (.slice a t.args.length c))).alloc (.cells #[.int .i64 0, .string ⟨#[]⟩, .slice none 0 0] 24)).alloc (.cells arr 24))) := ⟨(hb3.block _ (by simp)).trans hz, kc hb3 (by simp; omega) t1', hb2.trans (hb3.mono (by simp; omega))⟩
  have e0 := kc hb3 (by simp; omega) t0'
  have e1 := kc hb3 (by simp; omega) t1'
  have e2 := kc hb3 (by simp; omega) t2'
  obtain ⟨W1, hW1⟩ : ∃ W1, (((w.alloc (tbox t (.slice a t.args.length c))).alloc (.cells #[.int .i64 0, .string ⟨#[]⟩, .slice none 0 0] 24)).alloc (.cells arr 24)) = W1 := ⟨_, rfl⟩
  rw [hW1] at HI0 HZ
  have HW1 : Hid (_ = W1) := hW1
  have hd0 : ((t.args.length : Int) == 0) = false := by rw [beq_eq_false_iff_ne]; omega
  clear hW1
  clear t0 t1 t2 hbb h0 hsh hall harr hi hz0 hz1 hz2 ha hf hb3 hz hb2 hs
  go_enter Try.func45, Try.ntmps45
  go_wp2
  go_loopw [29] (fun vi wr => ∃ i : Nat, vi = .int .i64 i ∧ i ≤ t.args.length ∧ LoopI w W1 t f i wr) (fun vi _ => t.args.length - (intOf vi).toNat)
  case atStart => exact ⟨0, rfl, Nat.zero_le _, by rw [HW1.out]; exact HI0⟩
  case round =>
    obtain ⟨i, rfl, hi, hI⟩ := hrel
    have hbw : Below w.heap.size w wr := HZ.out.2.2.trans (hI.bel.mono (by omega))
    by_cases hlt : i < t.args.length
    · obtain ⟨ba, oa, s, e', hba, a0, a1, a2, hs⟩ := (ArgsAt.keep hbw (Nat.le_refl _) HA.out).nth hlt
      cases e'
      obtain ⟨x, hx⟩ : ∃ x, t.args[i] = x := ⟨_, rfl⟩
      have hfx : x.app σ = f i := by rw [← hx]; exact HF.out i hlt
      have hxs : x.shape = true := by rw [← hx]; exact HAll.out _ (List.getElem_mem hlt)
      have ihx := ih t.args[i] (List.getElem_mem hlt)
      rw [hx] at a0 a1 hs ihx
      obtain ⟨sa, sc, rfl, _, _⟩ := hs.slice
      have hb1 := below_box wr (tbox x (.slice sa x.args.length sc))
      have hcall := ihx (.slice sa x.args.length sc) (wr.alloc (tbox x (.slice sa x.args.length sc))) (hw.trans ((hbw.trans (hb1.mono hbw.size)).mono hw.size)) (ArgsAt.keep hb1 (Nat.le_refl _) hs) hxs
      rw [hfx] at hcall
      have hI1 := hI.al hb1
      have HI1 : Hid (LoopI w W1 t f i (wr.alloc (tbox x (.slice sa x.args.length sc)))) := hI1
      obtain ⟨k0, k1, k2⟩ := tbox_cells wr x (.slice sa x.args.length sc)
      clear hx hfx hxs ihx hs hb1 hI1 hI ih
      go_wp2_with (first | (go_at_call 45; refine hcall.mono ?_; rintro e w3 ⟨sl, rfl, hfr, hb3⟩; obtain ⟨pa, pc, rfl⟩ := hfr.slice; have hI3 := HI1.out.al hb3; obtain ⟨_, ⟨u0, u1, u2, c0, c1, c2⟩, y0, y1, y2⟩ := hI3.row.facts hlt; have H3 : Hid (LoopI w W1 t f i w3 ∧ ArgsFr (w.heap.size + 1 + 1 + 1) w3 (.slice pa (f i).args.length pc) (f i).args) := ⟨hI3, hfr.low (by have := HI1.out.siz; omega)⟩; clear hfr hb3 hI3))
      go_roundw
      case rel => exact ⟨i + 1, by go_num, by omega, H3.out.1.row.step hlt _ H3.out.2, set3_below H3.out.1.bel _ _ _ _ _ (Nat.le_refl _), by have := H3.out.1.siz; simp; omega⟩
      case measure => simp [intOf]; omega
    · have hz3 := (hI.bel.block (w.heap.size + 1) (by omega)).trans HZ.out.1
      obtain ⟨⟨z0, z1, z2⟩, y0, y1, y2⟩ := box_facts hz3
      have q1 := kc hI.bel (by omega) HZ.out.2.1
      have HI : Hid (LoopI w W1 t f t.args.length wr ∧ Below w.heap.size w wr) := ⟨by rw [show t.args.length = i by omega]; exact hI, hbw⟩
      clear hI hbw hz3 ih
      go_wp2
      rw [hap]
      refine bodyPost_ret (v := tval (.mk 0 t.fn (t.args.map (T.app σ))) (.slice (some ⟨w.heap.size + 1 + 1, 0, none⟩) t.args.length t.args.length)) (by simp [results, Try.results45, go_sem, *, T.v, T.fn]) rfl ⟨_, rfl, ?_, ?_⟩
      · have := HI.out.1.row.fr (l := t.args.map (T.app σ)) (by simp) (fun i hi => by simp at hi; simp [HF.out i hi]) (by omega)
        exact (this.keep (W' := set3 wr (w.heap.size + 1) 0 _ _ _) (by simp) (fun k hk _ => set3_other _ _ _ _ _ _ k (by omega))).low (by omega)
      · exact set3_below HI.out.2 _ 0 _ _ _ (Nat.le_succ _)

theorem rep_any (W0 : World) (g : Nat) (lb : Array Value) (σ : Int → T) (eg : ∀ args w, (callFunc g args).run Try.prog w = .ok (.enter g args) w) (hst : StandAt W0 g lb σ) (t : T) : RepAt W0 g lb σ t := by
  induction t using T.ind with
  | _ t ih =>
    intro sl w hw ha hsh
    obtain ⟨a, c, rfl, _, _⟩ := ha.slice
    by_cases h0 : t.fn.size = 0
    · exact rep_var W0 g lb σ eg hst t a _ c w hw h0
    · by_cases hn : t.args.length = 0
      · rw [hn]
        exact rep_nil g lb σ t a c w h0 (List.eq_nil_of_length_eq_zero hn)
      · exact rep_args W0 g lb σ t ih a c w hw ha hsh h0 (by omega)

end Go.Proofs.Ytblfbmdnkgebdaa
