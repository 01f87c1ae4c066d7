/-
  term.clone, at every term.
-/
import Derived.Test.YtijihmncbaoklaaGreatSF
import Derived.Test.YtijihmncbaoklaaGreatK
namespace Go.Proofs.YtijihmncbaoklaaGreat
open Go.RowKit

theorem csize_pos (t : T) : 1 ≤ t.size := by
  have h1 := size_parts t []
  rw [t.parts_eq] at h1
  simp at h1
  omega

theorem csum_sizes (l : List T) : (l.length : Int) ≤ (l.map T.size).sum ∧ ∀ a ∈ l, a.size ≤ (l.map T.size).sum := by
  induction l with
  | nil => simp
  | cons x r ih =>
    have := csize_pos x
    rw [List.map_cons, List.sum_cons, List.length_cons]
    refine ⟨by omega, fun a ha => ?_⟩
    rcases List.mem_cons.1 ha with rfl | ha
    · omega
    · have := ih.2 a ha
      omega

/-- What clone does at a term. -/
def CloneAt (t : T) : Prop :=
  ∀ (sl : Value) (w : World), ArgsAt w sl t.args → t.size ≤ 1048576 →
    Calls Tryz.prog 119 #[tval t sl] w fun e W' => ∃ sl', e = .returned (tval t sl') ∧ ArgsFr w.heap.size W' sl' t.args ∧ Below w.heap.size w W'

set_option maxRecDepth 100000 in
set_option maxHeartbeats 2000000 in
theorem reb_nil (t : T) (a : Option Addr) (c : Nat) (w : World) (hn : t.args = []) :
    Calls Tryz.prog 130 #[tval t (.slice a 0 c), .func (.func 131) #[] #[]] w fun e W' => ∃ sl, e = .returned (tval t sl) ∧ ArgsFr w.heap.size W' sl t.args ∧ Below w.heap.size w W' := by
  obtain ⟨t0, t1, t2⟩ := tbox_cells w t (.slice a 0 c)
  have hbb := below_box (w.alloc (tbox t (.slice a 0 c))) (.cells #[.int .i64 0, .string ⟨#[]⟩, .slice none 0 0] 32)
  have t0' := kc hbb (by simp) t0
  have t1' := kc hbb (by simp) t1
  have t2' := kc hbb (by simp) t2
  have HN : Hid (t.args = []) := hn
  clear t0 t1 t2 hbb hn
  go_enter Tryz.func130, Tryz.ntmps130
  go_wp2
  refine bodyPost_ret (v := tval t (.slice none 0 0)) (by simp [results, Tryz.results130, go_sem, *, T.v, T.fn]) rfl ⟨_, rfl, by rw [HN.out]; exact ArgsFr.nil _ _, ?_⟩
  first | exact set3_below (below_box2 w _ _) _ 0 _ _ _ (Nat.le_succ _) | exact below_box2 w _ _

set_option maxRecDepth 100000 in
set_option maxHeartbeats 2000000 in
theorem cl1_any (t : T) (i : Int) (ih : CloneAt t) (sl : Value) (w : World) (ha : ArgsAt w sl t.args) (hs : t.size ≤ 1048576) :
    Calls Tryz.prog 131 #[.int .i64 i, tval t sl] w fun e W' => ∃ sl', e = .returned (tval t sl') ∧ ArgsFr w.heap.size W' sl' t.args ∧ Below w.heap.size w W' := by
  obtain ⟨a, c, rfl, _, _⟩ := ha.slice
  have hb2 := below_box2 w (tbox t (.slice a t.args.length c)) (.cells #[.int .i64 0, .string ⟨#[]⟩, .slice none 0 0] 32)
  obtain ⟨t0, t1, t2⟩ := tbox_cells w t (.slice a t.args.length c)
  have hbb := below_box (w.alloc (tbox t (.slice a t.args.length c))) (.cells #[.int .i64 0, .string ⟨#[]⟩, .slice none 0 0] 32)
  have t0' := kc hbb (by simp) t0
  have t1' := kc hbb (by simp) t1
  have t2' := kc hbb (by simp) t2
  have hz : ((w.alloc (tbox t (.slice a t.args.length c))).alloc (.cells #[.int .i64 0, .string ⟨#[]⟩, .slice none 0 0] 32)).heap[w.heap.size + 1]? = some (.cells #[.int .i64 0, .string ⟨#[]⟩, .slice none 0 0] 32 (0, 0)) := by
    have := (MapKept.heap_alloc (w.alloc (tbox t (.slice a t.args.length c))) (.cells #[.int .i64 0, .string ⟨#[]⟩, .slice none 0 0] 32)).1
    rw [World.size_alloc] at this
    exact this
  have hS2 : ((w.alloc (tbox t (.slice a t.args.length c))).alloc (.cells #[.int .i64 0, .string ⟨#[]⟩, .slice none 0 0] 32)).heap.size = w.heap.size + 1 + 1 := by simp
  have hc := ih _ _ (ArgsAt.keep hb2 (Nat.le_refl _) ha) hs
  clear t0 t1 t2 hbb ha
  go_enter Tryz.func131, Tryz.ntmps131
  go_wp2_with (go_at_call 119; refine hc.mono ?_; rintro e W1 ⟨s', rfl, hfr, hb3⟩; have hz1 := (hb3.block (w.heap.size + 1) (by rw [hS2]; omega)).trans hz; obtain ⟨⟨z0, z1, z2⟩, y0, y1, y2⟩ := box_facts hz1; obtain ⟨pa, pc, rfl⟩ := hfr.slice; have HH : Hid (ArgsFr (w.heap.size + 2) W1 (.slice pa t.args.length pc) t.args ∧ Below w.heap.size w W1 ∧ w.heap.size + 2 ≤ W1.heap.size) := ⟨by rw [hS2] at hfr; exact hfr, hb2.trans (hb3.mono (by rw [hS2]; omega)), by have := hb3.size; rw [hS2] at this; omega⟩; clear hfr hb3 hz1)
  refine bodyPost_ret (v := tval t (.slice pa t.args.length pc)) (by simp [results, Tryz.results131, go_sem, *, T.v, T.fn]) rfl ⟨_, rfl, ?_, ?_⟩
  · exact (HH.out.1.keep (W' := set3 W1 (w.heap.size + 1) 0 _ _ _) (by simp) (fun k hk _ => set3_other _ _ _ _ _ _ k (by omega))).low (by omega)
  · exact set3_below HH.out.2.1 _ 0 _ _ _ (Nat.le_succ _)

set_option maxRecDepth 100000 in
set_option maxHeartbeats 4000000 in
theorem reb_args (t : T) (ih : ∀ a ∈ t.args, CloneAt a) (a : Option Addr) (c : Nat) (w : World) (ha : ArgsAt w (.slice a t.args.length c) t.args) (hsz : t.size ≤ 1048576) (hn : 0 < t.args.length) :
    Calls Tryz.prog 130 #[tval t (.slice a t.args.length c), .func (.func 131) #[] #[]] w fun e W' => ∃ sl, e = .returned (tval t sl) ∧ ArgsFr w.heap.size W' sl t.args ∧ Below w.heap.size w W' := by
  have hlen : t.args.length ≤ 1048576 ∧ ∀ x ∈ t.args, x.size ≤ 1048576 := by
    have := csum_sizes t.args
    rw [t.size_eq] at hsz
    exact ⟨by omega, fun x hx => by have := this.2 x hx; omega⟩
  obtain ⟨hlen, hall⟩ := hlen
  have HAll : Hid (∀ x ∈ t.args, x.size ≤ 1048576) := hall
  obtain ⟨t0, t1, t2⟩ := tbox_cells w t (.slice a t.args.length c)
  have hbb := below_box (w.alloc (tbox t (.slice a t.args.length c))) (.cells #[.int .i64 0, .string ⟨#[]⟩, .slice none 0 0] 32)
  have t0' := kc hbb (by simp) t0
  have t1' := kc hbb (by simp) t1
  have t2' := kc hbb (by simp) t2
  have hz : ((w.alloc (tbox t (.slice a t.args.length c))).alloc (.cells #[.int .i64 0, .string ⟨#[]⟩, .slice none 0 0] 32)).heap[w.heap.size + 1]? = some (.cells #[.int .i64 0, .string ⟨#[]⟩, .slice none 0 0] 32 (0, 0)) := by
    have := (MapKept.heap_alloc (w.alloc (tbox t (.slice a t.args.length c))) (.cells #[.int .i64 0, .string ⟨#[]⟩, .slice none 0 0] 32)).1
    rw [World.size_alloc] at this
    exact this
  have hb2 : Below w.heap.size w ((w.alloc (tbox t (.slice a t.args.length c))).alloc (.cells #[.int .i64 0, .string ⟨#[]⟩, .slice none 0 0] 32)) := below_box2 w _ _
  have hS2 : ((w.alloc (tbox t (.slice a t.args.length c))).alloc (.cells #[.int .i64 0, .string ⟨#[]⟩, .slice none 0 0] 32)).heap.size = w.heap.size + 1 + 1 := by simp
  obtain ⟨i0, hi, hz0, hz1, hz2⟩ := info_parts Tryz.info32
  obtain ⟨arr, harr⟩ : ∃ arr, madeCells (Value.agg #[.int .i64 0, .string ⟨#[]⟩, .slice none 0 0]).cells (t.args.length * 3) = arr := ⟨_, rfl⟩
  have hs : arr.size = t.args.length * 3 := by rw [← harr]; simp [madeCells]
  have hmk : ∀ W : World, (Instr.makeSlice 23 (.int .i64 t.args.length) (.int .i64 t.args.length)).run Tryz.prog W = .ok (.slice (some ⟨W.heap.size, 0, none⟩) t.args.length t.args.length) (W.alloc (.cells arr 32)) := by
    intro W
    have := run_make (P := Tryz.prog) W 23 32 i0 _ Tryz.underlying23 hi hz0 .i64 .i64 t.args.length t.args.length (by omega) (Int.le_refl _) (by rw [hz2]; omega) (by omega)
    rw [hz1] at this
    simp only [Int.toNat_natCast, harr] at this
    exact this
  have HA : Hid (ArgsAt w (.slice a t.args.length c) t.args) := ha
  obtain ⟨f, hf⟩ : ∃ f : Nat → T, ∀ j (hj : j < t.args.length), t.args[j] = f j := ⟨fun j => ((t.args[j]?)).getD t, fun j hj => by simp [hj]⟩
  have HF : Hid (∀ j (hj : j < t.args.length), t.args[j] = f j) := hf
  have HI0 : Hid (LoopI w (((w.alloc (tbox t (.slice a t.args.length c))).alloc (.cells #[.int .i64 0, .string ⟨#[]⟩, .slice none 0 0] 32)).alloc (.cells arr 32)) t f 0 (((w.alloc (tbox t (.slice a t.args.length c))).alloc (.cells #[.int .i64 0, .string ⟨#[]⟩, .slice none 0 0] 32)).alloc (.cells arr 32))) := by
    refine ⟨⟨⟨arr, ?_, hs⟩, fun j hj => absurd hj (by omega)⟩, Below.refl _ _, by simp⟩
    have := (MapKept.heap_alloc ((w.alloc (tbox t (.slice a t.args.length c))).alloc (.cells #[.int .i64 0, .string ⟨#[]⟩, .slice none 0 0] 32)) (.cells arr 32)).1
    rw [World.size_alloc, World.size_alloc] at this
    exact this
  have hb3 := below_box ((w.alloc (tbox t (.slice a t.args.length c))).alloc (.cells #[.int .i64 0, .string ⟨#[]⟩, .slice none 0 0] 32)) (.cells arr 32)
  have HZ : Hid ((((w.alloc (tbox t (.slice a t.args.length c))).alloc (.cells #[.int .i64 0, .string ⟨#[]⟩, .slice none 0 0] 32)).alloc (.cells arr 32)).heap[w.heap.size + 1]? = some (.cells #[.int .i64 0, .string ⟨#[]⟩, .slice none 0 0] 32 (0, 0)) ∧ (((w.alloc (tbox t (.slice a t.args.length c))).alloc (.cells #[.int .i64 0, .string ⟨#[]⟩, .slice none 0 0] 32)).alloc (.cells arr 32)).cell? ⟨w.heap.size, 1, none⟩ = some (.string t.fn) ∧ Below w.heap.size w (((w.alloc (tbox t (.slice a t.args.length c))).alloc (.cells #[.int .i64 0, .string ⟨#[]⟩, .slice none 0 0] 32)).alloc (.cells arr 32)) ∧ (((w.alloc (tbox t (.slice a t.args.length c))).alloc (.cells #[.int .i64 0, .string ⟨#[]⟩, .slice none 0 0] 32)).alloc (.cells arr 32)).cell? ⟨w.heap.size, 0, none⟩ = some (.int .i64 t.v)) := ⟨(hb3.block _ (by simp)).trans hz, kc hb3 (by simp; omega) t1', hb2.trans (hb3.mono (by simp; omega)), kc hb3 (by simp; omega) t0'⟩
  have e0 := kc hb3 (by simp; omega) t0'
  have e1 := kc hb3 (by simp; omega) t1'
  have e2 := kc hb3 (by simp; omega) t2'
  obtain ⟨W1, hW1⟩ : ∃ W1, (((w.alloc (tbox t (.slice a t.args.length c))).alloc (.cells #[.int .i64 0, .string ⟨#[]⟩, .slice none 0 0] 32)).alloc (.cells arr 32)) = W1 := ⟨_, rfl⟩
  rw [hW1] at HI0 HZ
  have HW1 : Hid (_ = W1) := hW1
  have hd0 : ((t.args.length : Int) == 0) = false := by rw [beq_eq_false_iff_ne]; omega
  clear hW1
  clear t0 t1 t2 hbb hsz hall harr hi hz0 hz1 hz2 ha hf hb3 hz hb2 hs
  go_enter Tryz.func130, Tryz.ntmps130
  go_wp2
  go_loopw [24] (fun vi wr => ∃ i : Nat, vi = .int .i64 i ∧ i ≤ t.args.length ∧ LoopI w W1 t f i wr) (fun vi _ => t.args.length - (intOf vi).toNat)
  case atStart => exact ⟨0, rfl, Nat.zero_le _, by rw [HW1.out]; exact HI0⟩
  case round =>
    obtain ⟨i, rfl, hi, hI⟩ := hrel
    have hbw : Below w.heap.size w wr := HZ.out.2.2.1.trans (hI.bel.mono (by omega))
    by_cases hlt : i < t.args.length
    · obtain ⟨ba, oa, s, e', hba, a0, a1, a2, hs⟩ := (ArgsAt.keep hbw (Nat.le_refl _) HA.out).nth hlt
      cases e'
      obtain ⟨x, hx⟩ : ∃ x, t.args[i] = x := ⟨_, rfl⟩
      have hfx : x = f i := by rw [← hx]; exact HF.out i hlt
      have hxs : x.size ≤ 1048576 := by rw [← hx]; exact HAll.out _ (List.getElem_mem hlt)
      have ihx := ih t.args[i] (List.getElem_mem hlt)
      rw [hx] at a0 a1 hs ihx
      obtain ⟨sa, sc, rfl, _, _⟩ := hs.slice
      have hb1 := below_box wr (tbox x (.slice sa x.args.length sc))
      have hcall := cl1_any x i ihx (.slice sa x.args.length sc) (wr.alloc (tbox x (.slice sa x.args.length sc))) (ArgsAt.keep hb1 (Nat.le_refl _) hs) hxs
      have hI1 := hI.al hb1
      have HI1 : Hid (LoopI w W1 t f i (wr.alloc (tbox x (.slice sa x.args.length sc)))) := hI1
      obtain ⟨k0, k1, k2⟩ := tbox_cells wr x (.slice sa x.args.length sc)
      have HX : Hid (x = f i) := hfx
      clear hx hfx hxs ihx hs hb1 hI1 hI ih
      go_wp2_with (first | (go_at_call 131; refine hcall.mono ?_; rintro e w3 ⟨sl, rfl, hfr, hb3⟩; obtain ⟨pa, pc, rfl⟩ := hfr.slice; have hI3 := HI1.out.al hb3; obtain ⟨_, ⟨u0, u1, u2, c0, c1, c2⟩, y0, y1, y2⟩ := hI3.row.facts hlt; have H3 : Hid (LoopI w W1 t f i w3 ∧ ArgsFr (w.heap.size + 1 + 1 + 1) w3 (.slice pa x.args.length pc) x.args) := ⟨hI3, hfr.low (by have := HI1.out.siz; omega)⟩; clear hfr hb3 hI3))
      go_roundw
      case rel =>
        refine ⟨i + 1, by go_num, by omega, ?_, set3_below H3.out.1.bel _ _ _ _ _ (Nat.le_refl _), by have := H3.out.1.siz; simp; omega⟩
        have h3 := H3.out.1.row.step hlt (.slice pa x.args.length pc) (by rw [← HX.out]; exact H3.out.2)
        rw [← HX.out] at h3
        exact h3
      case measure => simp [intOf]; omega
    · have hz3 := (hI.bel.block (w.heap.size + 1) (by omega)).trans HZ.out.1
      obtain ⟨⟨z0, z1, z2⟩, y0, y1, y2⟩ := box_facts hz3
      have q1 := kc hI.bel (by omega) HZ.out.2.1
      have q0 := kc hI.bel (by omega) HZ.out.2.2.2
      have HI : Hid (LoopI w W1 t f t.args.length wr ∧ Below w.heap.size w wr) := ⟨by rw [show t.args.length = i by omega]; exact hI, hbw⟩
      clear hI hbw hz3 ih
      go_wp2
      refine bodyPost_ret (v := tval t (.slice (some ⟨w.heap.size + 1 + 1, 0, none⟩) t.args.length t.args.length)) (by simp [results, Tryz.results130, go_sem, *, T.v, T.fn]) rfl ⟨_, rfl, ?_, ?_⟩
      · have := HI.out.1.row.fr (l := t.args) rfl (fun i hi => HF.out i hi) (by omega)
        exact (this.keep (W' := set3 wr (w.heap.size + 1) 0 _ _ _) (by simp) (fun k hk _ => set3_other _ _ _ _ _ _ k (by omega))).low (by omega)
      · exact set3_below HI.out.2 _ 0 _ _ _ (Nat.le_succ _)

theorem reb_any (t : T) (ih : ∀ a ∈ t.args, CloneAt a) (sl : Value) (w : World) (ha : ArgsAt w sl t.args) (hsz : t.size ≤ 1048576) :
    Calls Tryz.prog 130 #[tval t sl, .func (.func 131) #[] #[]] w fun e W' => ∃ sl, e = .returned (tval t sl) ∧ ArgsFr w.heap.size W' sl t.args ∧ Below w.heap.size w W' := by
  obtain ⟨a, c, rfl, _, _⟩ := ha.slice
  by_cases hn : t.args = []
  · have := reb_nil t a c w hn
    rw [hn]
    rw [hn] at this
    exact this
  · exact reb_args t ih a c w ha hsz (List.length_pos_iff.2 hn)

set_option maxRecDepth 100000 in
set_option maxHeartbeats 2000000 in
theorem clone_t (t : T) : CloneAt t := by
  induction t using T.ind with
  | _ t ih =>
    intro sl w ha hs
    obtain ⟨a, c, rfl, _, _⟩ := ha.slice
    have hb2 := below_box2 w (tbox t (.slice a t.args.length c)) (.cells #[.int .i64 0, .string ⟨#[]⟩, .slice none 0 0] 32)
    obtain ⟨t0, t1, t2⟩ := tbox_cells w t (.slice a t.args.length c)
    have hbb := below_box (w.alloc (tbox t (.slice a t.args.length c))) (.cells #[.int .i64 0, .string ⟨#[]⟩, .slice none 0 0] 32)
    have t0' := kc hbb (by simp) t0
    have t1' := kc hbb (by simp) t1
    have t2' := kc hbb (by simp) t2
    have hz : ((w.alloc (tbox t (.slice a t.args.length c))).alloc (.cells #[.int .i64 0, .string ⟨#[]⟩, .slice none 0 0] 32)).heap[w.heap.size + 1]? = some (.cells #[.int .i64 0, .string ⟨#[]⟩, .slice none 0 0] 32 (0, 0)) := by
      have := (MapKept.heap_alloc (w.alloc (tbox t (.slice a t.args.length c))) (.cells #[.int .i64 0, .string ⟨#[]⟩, .slice none 0 0] 32)).1
      rw [World.size_alloc] at this
      exact this
    have hS2 : ((w.alloc (tbox t (.slice a t.args.length c))).alloc (.cells #[.int .i64 0, .string ⟨#[]⟩, .slice none 0 0] 32)).heap.size = w.heap.size + 1 + 1 := by simp
    have hc := reb_any t ih _ _ (ArgsAt.keep hb2 (Nat.le_refl _) ha) hs
    clear t0 t1 t2 hbb ha ih
    go_enter Tryz.func119, Tryz.ntmps119
    go_wp2_with (go_at_call 130; refine hc.mono ?_; rintro e W1 ⟨s', rfl, hfr, hb3⟩; have hz1 := (hb3.block (w.heap.size + 1) (by rw [hS2]; omega)).trans hz; obtain ⟨⟨z0, z1, z2⟩, y0, y1, y2⟩ := box_facts hz1; obtain ⟨pa, pc, rfl⟩ := hfr.slice; have HH : Hid (ArgsFr (w.heap.size + 2) W1 (.slice pa t.args.length pc) t.args ∧ Below w.heap.size w W1 ∧ w.heap.size + 2 ≤ W1.heap.size) := ⟨by rw [hS2] at hfr; exact hfr, hb2.trans (hb3.mono (by rw [hS2]; omega)), by have := hb3.size; rw [hS2] at this; omega⟩; clear hfr hb3 hz1)
    refine bodyPost_ret (v := tval t (.slice pa t.args.length pc)) (by simp [results, Tryz.results119, go_sem, *, T.v, T.fn]) rfl ⟨_, rfl, ?_, ?_⟩
    · exact (HH.out.1.keep (W' := set3 W1 (w.heap.size + 1) 0 _ _ _) (by simp) (fun k hk _ => set3_other _ _ _ _ _ _ k (by omega))).low (by omega)
    · exact set3_below HH.out.2.1 _ 0 _ _ _ (Nat.le_succ _)

end Go.Proofs.YtijihmncbaoklaaGreat
