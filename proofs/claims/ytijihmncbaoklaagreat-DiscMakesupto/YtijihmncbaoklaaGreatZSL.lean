import Derived.Test.YtijihmncbaoklaaGreatZSH

/-
  subst.grown and subst.fits.
-/
namespace Go.Proofs.YtijihmncbaoklaaGreat
open Go.RowKit

/-- Two cells of a block. -/
theorem two_facts {X : World} {n : Nat} {u v : Value} (h : X.heap[n]? = some (.cells #[u, v] 134 (0, 0))) : (X.cell? ⟨n, 0, none⟩ = some u ∧ X.cell? ⟨n, 1, none⟩ = some v) ∧ (X.frozen? ⟨n, 0, none⟩ = false ∧ X.frozen? ⟨n, 1, none⟩ = false) := by
  refine ⟨⟨?_, ?_⟩, ⟨?_, ?_⟩⟩ <;> simp [World.cell?, World.frozen?, h]

theorem set2_block {X : World} {n : Nat} {u v : Value} (h : X.heap[n]? = some (.cells #[u, v] 134 (0, 0))) (u' v' : Value) : ((X.setCell ⟨n, 0, none⟩ u').setCell ⟨n, 1, none⟩ v').heap[n]? = some (.cells #[u', v'] 134 (0, 0)) := by
  have e1 := heap_setCell_same X n 0 _ 134 u' h
  have e2 := heap_setCell_same _ n 1 _ 134 v' e1
  simpa using e2

theorem set2_below {n : Nat} {w W : World} (h : Below n w W) (b : Nat) (u v : Value) (hb : n ≤ b) : Below n w ((W.setCell ⟨b, 0, none⟩ u).setCell ⟨b, 1, none⟩ v) :=
  (h.setCell (p := ⟨b, 0, none⟩) hb _).setCell (p := ⟨b, 1, none⟩) hb _

/-- What grown does at a term. -/
def GrownAt (W0 : World) (g : Nat) (lb : Array Value) (σ : Int → T) (t : T) : Prop :=
  ∀ (sl : Value) (w : World), Below W0.heap.size W0 w → ArgsAt w sl t.args → t.size ≤ 4000 →
    Calls Tryz.prog 70 #[tval t sl, .func (.func g) #[] lb] w fun e W' => e = .returned (ext (t.app σ)) ∧ Below w.heap.size w W'

set_option maxRecDepth 100000 in
set_option maxHeartbeats 2000000 in
theorem grown_var (W0 : World) (g : Nat) (lb : Array Value) (σ : Int → T) (eg : ∀ args w, (callFunc g args).run Tryz.prog w = .ok (.enter g args) w) (hof : OfAt W0 g lb σ) (t : T) (a : Option Addr) (m c : Nat) (w : World) (hw : Below W0.heap.size W0 w) (h0 : t.fn.size = 0) :
    Calls Tryz.prog 70 #[tval t (.slice a m c), .func (.func g) #[] lb] w fun e W' => e = .returned (ext (t.app σ)) ∧ Below w.heap.size w W' := by
  have hap : t.app σ = σ t.v := by rw [T.app_eq, if_pos h0]
  rw [hap]
  have hdd : t.fn.toList.isEmpty = true := by rw [ba_isEmpty]; exact decide_eq_true h0
  have hb2 : Below w.heap.size w ((w.alloc (tbox t (.slice a m c))).alloc (.cells #[.int .i64 0, .int .i64 0] 134)) := below_box2 w _ _
  have hz : ((w.alloc (tbox t (.slice a m c))).alloc (.cells #[.int .i64 0, .int .i64 0] 134)).heap[w.heap.size + 1]? = some (.cells #[.int .i64 0, .int .i64 0] 134 (0, 0)) := by
    have := (MapKept.heap_alloc (w.alloc (tbox t (.slice a m c))) (.cells #[.int .i64 0, .int .i64 0] 134)).1
    rw [World.size_alloc] at this
    exact this
  have hc := hof t.v _ (hw.trans (hb2.mono hw.size))
  obtain ⟨t0, t1, t2⟩ := tbox_cells w t (.slice a m c)
  have hbb := below_box (w.alloc (tbox t (.slice a m c))) (.cells #[.int .i64 0, .int .i64 0] 134)
  have t0' := kc hbb (by simp) t0
  have t1' := kc hbb (by simp) t1
  clear t0 t1 t2 hbb hap h0
  go_enter Tryz.func70, Tryz.ntmps70
  go_wp2_with (first | (go_at_fn g; refine hc.mono ?_; rintro e w3 ⟨rfl, hb3⟩; have hz3 := (hb3.block (w.heap.size + 1) (by simp)).trans hz; obtain ⟨⟨z0, z1⟩, y0, y1⟩ := two_facts hz3; have HF : Hid (Below w.heap.size w w3) := hb2.trans (hb3.mono (by simp; omega)); clear hb3 hz3))
  refine bodyPost_ret (v := ext (σ t.v)) (by simp [results, Tryz.results70, go_sem, *]) rfl ⟨rfl, ?_⟩
  exact set2_below HF.out _ _ _ (Nat.le_succ _)

set_option maxRecDepth 100000 in
set_option maxHeartbeats 4000000 in
theorem grown_fn (W0 : World) (g : Nat) (lb : Array Value) (σ : Int → T) (hσ : ∀ n, (σ n).size ≤ 4000) (t : T) (ih : ∀ a ∈ t.args, GrownAt W0 g lb σ a) (a : Option Addr) (c : Nat) (w : World) (hw : Below W0.heap.size W0 w) (ha : ArgsAt w (.slice a t.args.length c) t.args) (hsz : t.size ≤ 4000) (h0 : t.fn.size ≠ 0) :
    Calls Tryz.prog 70 #[tval t (.slice a t.args.length c), .func (.func g) #[] lb] w fun e W' => e = .returned (ext (t.app σ)) ∧ Below w.heap.size w W' := by
  have hap : t.app σ = .mk 0 t.fn (t.args.map (T.app σ)) := by rw [T.app_eq, if_neg h0]
  have hdd : t.fn.toList.isEmpty = false := by rw [ba_isEmpty]; exact decide_eq_false h0
  obtain ⟨fs, hfs⟩ : ∃ fs : T → Int, ∀ a, (a.app σ).size = fs a := ⟨fun a => (a.app σ).size, fun _ => rfl⟩
  obtain ⟨fd, hfd⟩ : ∃ fd : T → Int, ∀ a, (a.app σ).depth = fd a := ⟨fun a => (a.app σ).depth, fun _ => rfl⟩
  have hpos : ∀ a, 1 ≤ fs a := fun a => by rw [← hfs]; exact size_pos _
  have hfds : ∀ a, fd a ≤ fs a := fun a => by rw [← hfs, ← hfd]; exact depth_le_size _
  have hS : (t.app σ).size = 1 + (t.args.map fs).sum := by
    rw [hap, T.size_eq]
    show 1 + ((t.args.map (T.app σ)).map T.size).sum = _
    rw [List.map_map]
    congr 2
    exact List.map_congr_left fun a _ => hfs a
  have hD : (t.app σ).depth = (t.args.map fd).foldl max 0 + 1 := by
    rw [hap, T.depth_eq]
    show ((t.args.map (T.app σ)).map T.depth).foldl max 0 + 1 = _
    rw [List.map_map]
    congr 2
    exact List.map_congr_left fun a _ => hfd a
  have hbig : 1 + (t.args.map fs).sum ≤ 16000000 := by
    rw [← hS]
    have := app_size σ hσ t
    omega
  have hlen : t.args.length ≤ 4000 := by
    have h1 := t.size_eq
    have h2 : (t.args.length : Int) ≤ (t.args.map T.size).sum := by
      generalize t.args = l
      induction l with
      | nil => simp
      | cons x r ihl =>
        have := size_pos x
        rw [List.map_cons, List.sum_cons, List.length_cons]
        omega
    omega
  have hasz : ∀ x ∈ t.args, x.size ≤ 4000 := by
    intro x hx
    obtain ⟨j, hj, rfl⟩ := List.mem_iff_getElem.1 hx
    have h1 := t.size_eq
    have h2 := upto_le T.size t.args (fun a _ => by have := size_pos a; omega) j
    have h3 := upto_le T.size t.args (fun a _ => by have := size_pos a; omega) (j + 1)
    rw [upto_succ _ _ _ hj] at h3
    omega
  have HS : Hid ((∀ k, 0 ≤ upto fs t.args k ∧ upto fs t.args k ≤ (t.args.map fs).sum) ∧ (∀ k, mx fd t.args k ≤ upto fs t.args k) ∧ (t.app σ).size = 1 + (t.args.map fs).sum ∧ (t.app σ).depth = (t.args.map fd).foldl max 0 + 1 ∧ 1 + (t.args.map fs).sum ≤ 16000000 ∧ (∀ x ∈ t.args, x.size ≤ 4000)) :=
    ⟨fun k => upto_le fs t.args (fun a _ => by have := hpos a; omega) k, fun k => mx_le_sum fd fs t.args (fun a _ => ⟨hfds a, by have := hpos a; omega⟩) k, hS, hD, hbig, hasz⟩
  have HF : Hid ((∀ a, (a.app σ).size = fs a) ∧ ∀ a, (a.app σ).depth = fd a) := ⟨hfs, hfd⟩
  obtain ⟨t0, t1, t2⟩ := tbox_cells w t (.slice a t.args.length c)
  obtain ⟨W2, hW2⟩ : ∃ W2, (w.alloc (tbox t (.slice a t.args.length c))).alloc (.cells #[.int .i64 0, .int .i64 0] 134) = W2 := ⟨_, rfl⟩
  have hbb := below_box (w.alloc (tbox t (.slice a t.args.length c))) (.cells #[.int .i64 0, .int .i64 0] 134)
  have hb2 := below_box2 w (tbox t (.slice a t.args.length c)) (.cells #[.int .i64 0, .int .i64 0] 134)
  have t1' := kc hbb (by simp) t1
  have t2' := kc hbb (by simp) t2
  have hz := (MapKept.heap_alloc (w.alloc (tbox t (.slice a t.args.length c))) (.cells #[.int .i64 0, .int .i64 0] 134)).1
  rw [World.size_alloc] at hz
  have hb3 := below_box ((w.alloc (tbox t (.slice a t.args.length c))).alloc (.cells #[.int .i64 0, .int .i64 0] 134)) (.cells #[.int .i64 1, .int .i64 0] 134)
  have hz3 := (MapKept.heap_alloc ((w.alloc (tbox t (.slice a t.args.length c))).alloc (.cells #[.int .i64 0, .int .i64 0] 134)) (.cells #[.int .i64 1, .int .i64 0] 134)).1
  rw [World.size_alloc, World.size_alloc] at hz3
  obtain ⟨W1, hW1⟩ : ∃ W1, ((w.alloc (tbox t (.slice a t.args.length c))).alloc (.cells #[.int .i64 0, .int .i64 0] 134)).alloc (.cells #[.int .i64 1, .int .i64 0] 134) = W1 := ⟨_, rfl⟩
  have HZ : Hid (W1.heap[w.heap.size + 1]? = some (.cells #[.int .i64 0, .int .i64 0] 134 (0, 0)) ∧ Below w.heap.size w W1 ∧ GrI w W1 (1 + upto fs t.args 0) (mx fd t.args 0) W1) := by
    rw [← hW1]
    refine ⟨(hb3.block _ (by simp)).trans hz, hb2.trans (hb3.mono (by simp; omega)), ⟨?_, Below.refl _ _, by simp⟩⟩
    rw [upto_zero, mx_zero]
    exact hz3
  have HW1 : Hid (_ = W1) := hW1
  have HA : Hid (ArgsAt w (.slice a t.args.length c) t.args) := ha
  have e2 := kc hb3 (by simp; omega) t2'
  clear hW2 hW1 t0 t1 t2 hbb hb2 hz hb3 hz3 hfs hfd hpos hfds hS hD hbig hasz ha h0 hsz hap hσ
  go_enter Tryz.func70, Tryz.ntmps70
  go_wp2
  go_loopw [20] (fun vi wr => ∃ i : Nat, vi = .int .i64 i ∧ i ≤ t.args.length ∧ GrI w W1 (1 + upto fs t.args i) (mx fd t.args i) wr) (fun vi _ => t.args.length - (intOf vi).toNat)
  case atStart => exact ⟨0, rfl, Nat.zero_le _, by rw [HW1.out]; exact HZ.out.2.2⟩
  case round =>
    obtain ⟨i, rfl, hi, hI⟩ := hrel
    have hbw : Below w.heap.size w wr := HZ.out.2.1.trans (hI.bel.mono (by omega))
    have b1 := HS.out.1 i
    have b2 := HS.out.2.1 i
    have b3 := mx_nonneg fd t.args i
    have b4 := HS.out.2.2.2.2.1
    by_cases hlt : i < t.args.length
    · obtain ⟨ba, oa, sl, e', hba, a0, a1, a2, hs⟩ := (ArgsAt.keep hbw (Nat.le_refl _) HA.out).nth hlt
      cases e'
      have hup : 1 + upto fs t.args (i + 1) = 1 + upto fs t.args i + fs t.args[i] := by rw [upto_succ fs t.args i hlt]; omega
      have hmx := mx_succ fd t.args i hlt
      have b5 := HS.out.1 (i + 1)
      rw [upto_succ fs t.args i hlt] at b5
      have ihx := ih t.args[i] (List.getElem_mem hlt)
      have hxs := HS.out.2.2.2.2.2 _ (List.getElem_mem hlt)
      obtain ⟨x, hx⟩ : ∃ x, t.args[i] = x := ⟨_, rfl⟩
      rw [hx] at a0 a1 hs ihx hup hmx b5 hxs
      obtain ⟨sa, sc, rfl, _, _⟩ := hs.slice
      have hb1 := below_box wr (tbox x (.slice sa x.args.length sc))
      have hcall := ihx (.slice sa x.args.length sc) (wr.alloc (tbox x (.slice sa x.args.length sc))) (hw.trans ((hbw.trans (hb1.mono hbw.size)).mono hw.size)) (ArgsAt.keep hb1 (Nat.le_refl _) hs) hxs
      have hcall' : Calls Tryz.prog 70 #[tval x (.slice sa x.args.length sc), .func (.func g) #[] lb] (wr.alloc (tbox x (.slice sa x.args.length sc))) fun e W' => e = .returned (.agg #[.int .i64 (fs x), .int .i64 (fd x)]) ∧ Below (wr.alloc (tbox x (.slice sa x.args.length sc))).heap.size (wr.alloc (tbox x (.slice sa x.args.length sc))) W' := by
        have := hcall
        unfold ext at this
        rw [HF.out.1 x, HF.out.2 x] at this
        exact this
      obtain ⟨S, hSv⟩ : ∃ S, 1 + upto fs t.args i = S := ⟨_, rfl⟩
      obtain ⟨D, hDv⟩ : ∃ D, mx fd t.args i = D := ⟨_, rfl⟩
      rw [hSv] at hI hup
      rw [hDv] at hI hmx b2 b3
      have hI1 := hI.al hb1
      have HI1 : Hid (GrI w W1 S D (wr.alloc (tbox x (.slice sa x.args.length sc)))) := hI1
      have HU : Hid (1 + upto fs t.args (i + 1) = S + fs x ∧ mx fd t.args (i + 1) = max D (fd x)) := ⟨hup, hmx⟩
      obtain ⟨k0, k1, k2⟩ := tbox_cells wr x (.slice sa x.args.length sc)
      obtain ⟨p, hp⟩ : ∃ p, fs x = p := ⟨_, rfl⟩
      obtain ⟨q, hq⟩ : ∃ q, fd x = q := ⟨_, rfl⟩
      rw [hp, hq] at hcall' HU
      rw [hp] at b5
      have wa : IntKind.i64.wrap (S + p) = S + p := wrap_small _ (by omega) (by omega)
      clear hx ihx hs hb1 hI1 hI ih hcall hup hmx hp hq hxs
      go_wp2_with (first | (go_at_call 70; refine hcall'.mono ?_; rintro e w3 ⟨rfl, hb3⟩; have hI3 := HI1.out.al hb3; have hI4 := hI3.al (below_box w3 (.cells #[.int .i64 p, .int .i64 q] 134)); obtain ⟨⟨z0, z1⟩, y0, y1⟩ := two_facts hI4.box; have H4 : Hid (GrI w W1 S D (w3.alloc (.cells #[.int .i64 p, .int .i64 q] 134))) := hI4; clear hb3 hI3 hI4))
      all_goals go_roundw
      case rel => exact ⟨i + 1, by go_num, by omega, by rw [HU.out.1, HU.out.2]; first | exact ⟨set2_block H4.out.box _ _, set2_below H4.out.bel _ _ _ (Nat.le_refl _), by have := H4.out.siz; simp at this ⊢; omega⟩ | exact ⟨by rw [show max D q = D by omega]; exact set2_block H4.out.box _ _, set2_below H4.out.bel _ _ _ (Nat.le_refl _), by have := H4.out.siz; simp at this ⊢; omega⟩ | exact ⟨by rw [show max D q = q by omega]; exact set2_block H4.out.box _ _, set2_below H4.out.bel _ _ _ (Nat.le_refl _), by have := H4.out.siz; simp at this ⊢; omega⟩⟩
      case measure => simp [intOf]; omega
    · have hz3 := (hI.bel.block (w.heap.size + 1) (by omega)).trans HZ.out.1
      obtain ⟨⟨z0, z1⟩, y0, y1⟩ := two_facts hz3
      obtain ⟨⟨x0, x1⟩, v0, v1⟩ := two_facts hI.box
      have hS := HS.out.2.2.1
      have hD := HS.out.2.2.2.1
      have ei : t.args.length ≤ i := by omega
      rw [← upto_all fs t.args i ei] at hS
      rw [← mx_all fd t.args i ei] at hD
      obtain ⟨S, hSv⟩ : ∃ S, 1 + upto fs t.args i = S := ⟨_, rfl⟩
      obtain ⟨D, hDv⟩ : ∃ D, mx fd t.args i = D := ⟨_, rfl⟩
      rw [hSv] at x0 hS
      rw [hDv] at x1 hD b2 b3
      have wa : IntKind.i64.wrap (D + 1) = D + 1 := wrap_small _ (by omega) (by omega)
      have HR : Hid ((t.app σ).size = S ∧ (t.app σ).depth = D + 1 ∧ Below w.heap.size w wr) := ⟨hS, hD, hbw⟩
      clear hI hbw hz3 ih hS hD
      go_wp2
      refine bodyPost_ret (v := .agg #[.int .i64 S, .int .i64 (D + 1)]) (by simp [results, Tryz.results70, go_sem, *]) rfl ⟨by unfold ext; rw [HR.out.1, HR.out.2.1], ?_⟩
      exact set2_below (HR.out.2.2.setCell (p := ⟨w.heap.size + 1 + 1, 1, none⟩) (by simp only; omega) _) _ _ _ (Nat.le_succ _)

theorem grown_any (W0 : World) (g : Nat) (lb : Array Value) (σ : Int → T) (eg : ∀ args w, (callFunc g args).run Tryz.prog w = .ok (.enter g args) w) (hof : OfAt W0 g lb σ) (hσ : ∀ n, (σ n).size ≤ 4000) (t : T) : GrownAt W0 g lb σ t := by
  induction t using T.ind with
  | _ t ih =>
    intro sl w hw ha hsz
    obtain ⟨a, c, rfl, _, _⟩ := ha.slice
    by_cases h0 : t.fn.size = 0
    · exact grown_var W0 g lb σ eg hof t a _ c w hw h0
    · exact grown_fn W0 g lb σ hσ t ih a c w hw ha hsz h0

/-- What fits answers of a term that would come. -/
def fitsW (t : T) : Int := if 60 < t.depth then 22 else if 4000 < t.size then 3 else 0

set_option maxHeartbeats 2000000 in
theorem fits_any (W0 : World) (g : Nat) (lb : Array Value) (σ : Int → T) (eg : ∀ args w, (callFunc g args).run Tryz.prog w = .ok (.enter g args) w) (hof : OfAt W0 g lb σ) (hσ : ∀ n, (σ n).size ≤ 4000) (t : T) (sl : Value) (w : World) (hw : Below W0.heap.size W0 w) (ha : ArgsAt w sl t.args) (hsz : t.size ≤ 4000) :
    Calls Tryz.prog 46 #[tval t sl, .func (.func g) #[] lb] w fun e W' => e = .returned (.int .i64 (fitsW (t.app σ))) ∧ Below w.heap.size w W' := by
  obtain ⟨a, c, rfl, _, _⟩ := ha.slice
  have hb1 := below_box w (tbox t (.slice a t.args.length c))
  have hg := grown_any W0 g lb σ eg hof hσ t _ (w.alloc (tbox t (.slice a t.args.length c))) (hw.trans (hb1.mono hw.size)) (ArgsAt.keep hb1 (Nat.le_refl _) ha) hsz
  obtain ⟨t0, t1, t2⟩ := tbox_cells w t (.slice a t.args.length c)
  obtain ⟨u, hu⟩ : ∃ u, t.app σ = u := ⟨_, rfl⟩
  rw [hu] at hg ⊢
  obtain ⟨D, hD⟩ : ∃ D, u.depth = D := ⟨_, rfl⟩
  obtain ⟨S, hS⟩ : ∃ S, u.size = S := ⟨_, rfl⟩
  unfold ext at hg
  rw [hD, hS] at hg
  by_cases h1 : 60 < D
  · have Hf : Hid (fitsW u = 22) := by show fitsW u = _; unfold fitsW; rw [hD, if_pos h1]
    clear hu ha hD hS hsz
    go_enter Tryz.func46, Tryz.ntmps46
    go_wp2_with (first | (go_at_call 70; refine hg.mono ?_; rintro e w3 ⟨rfl, hb3⟩))
    go_ret
    exact ⟨ret_i64 Hf.symm, hb1.trans ((hb3.mono (by simp)).trans ((below_box w3 _).mono (by have := hb3.size; simp at this; omega)))⟩
  · by_cases h2 : 4000 < S
    · have Hf : Hid (fitsW u = 3) := by show fitsW u = _; unfold fitsW; rw [hD, hS, if_neg h1, if_pos h2]
      clear hu ha hD hS hsz
      go_enter Tryz.func46, Tryz.ntmps46
      go_wp2_with (first | (go_at_call 70; refine hg.mono ?_; rintro e w3 ⟨rfl, hb3⟩))
      go_ret
      exact ⟨ret_i64 Hf.symm, hb1.trans ((hb3.mono (by simp)).trans ((below_box w3 _).mono (by have := hb3.size; simp at this; omega)))⟩
    · have Hf : Hid (fitsW u = 0) := by show fitsW u = _; unfold fitsW; rw [hD, hS, if_neg h1, if_neg h2]
      clear hu ha hD hS hsz
      go_enter Tryz.func46, Tryz.ntmps46
      go_wp2_with (first | (go_at_call 70; refine hg.mono ?_; rintro e w3 ⟨rfl, hb3⟩))
      go_ret
      exact ⟨ret_i64 Hf.symm, hb1.trans ((hb3.mono (by simp)).trans ((below_box w3 _).mono (by have := hb3.size; simp at this; omega)))⟩

end Go.Proofs.YtijihmncbaoklaaGreat

/-
  subst.extents.
-/
namespace Go.Proofs.YtijihmncbaoklaaGreat
open Go.RowKit

theorem Tryz.info134 : (Tryz.prog.info? 134).map (fun i => (i.zero, i.size, i.bytes)) = some (some (.agg #[.int .i64 0, .int .i64 0]), 2, 16) := by kernel_rfl

/-- A term that is right, and so small that all can be counted. -/
structure Rt (t : T) : Prop where
  shape : t.shape = true
  size : t.size ≤ 4000
  depth : t.depth ≤ 60
  short : Short t

theorem var_size (n : Int) : (var n).size = 1 ∧ (var n).depth = 1 := by
  constructor
  · rw [T.size_eq]; simp [var, T.args]
  · rw [T.depth_eq]; simp [var, T.args]

set_option maxRecDepth 100000 in
set_option maxHeartbeats 2000000 in
theorem extents1_any (l : List Bd) (hsub : IsSub l) (n : Int) (v : Value) (B1 B2 g : Nat) (w : World) (h : ExtAt w l v B1 B2 g) :
    Calls Tryz.prog 73 #[.int .i64 n, .pointer (some ⟨B1, 0, none⟩), .pointer (some ⟨B2, 0, none⟩)] w fun e W' => e = .returned (ext (img l n)) ∧ Below w.heap.size w W' := by
  obtain ⟨a, c, rfl⟩ := h.binds.slice
  have hb0 := below_box w (.cells #[.int .i64 0, .int .i64 0] 134)
  have hz : (w.alloc (.cells #[.int .i64 0, .int .i64 0] 134)).heap[w.heap.size]? = some (.cells #[.int .i64 0, .int .i64 0] 134 (0, 0)) := (MapKept.heap_alloc w _).1
  have h1 := h.keep hb0
  have q1 := h1.c1
  by_cases hex : ∃ k, ∃ h : k < l.length, l[k].1 = n
  · have hp := place_yes l n (.slice a l.length c) _ h1.binds hsub.rising hsub.1 hex
    have HL : Hid (ExtAt (w.alloc (.cells #[.int .i64 0, .int .i64 0] 134)) l (.slice a l.length c) B1 B2 g ∧ Rising l) := ⟨h1, hsub.rising⟩
    clear h h1 hsub hex
    go_enter Tryz.func73, Tryz.ntmps73
    go_wp2_with (first | (go_at_call 74; refine hp.mono ?_; rintro e w2 ⟨p, rfl, ⟨hpl, hpe⟩, hb2⟩; have hz2 := (hb2.block w.heap.size (by simp)).trans hz; obtain ⟨⟨z0, z1⟩, y0, y1⟩ := two_facts hz2; have hE := HL.out.1.keep hb2; have q2 := hE.c2; obtain ⟨r0, r1⟩ := hE.row.el p hpl hpl; have HI : Hid (img l n = l[p].2 ∧ Below w.heap.size w w2) := ⟨img_yes HL.out.2 hpl hpe, hb0.trans (hb2.mono (by simp))⟩; obtain ⟨x, hx⟩ : ∃ x, l[p] = x := ⟨_, rfl⟩; rw [hx] at HI r0 r1; clear hE hz2 hb2 hpe hx))
    refine bodyPost_ret (v := ext x.2) (by simp [results, Tryz.results73, go_sem, *]) rfl ⟨by rw [HI.out.1], ?_⟩
    exact set2_below HI.out.2 _ _ _ (Nat.le_refl _)
  · have hp := place_not l n (.slice a l.length c) _ h1.binds hsub.rising hsub.1 hex
    have HI : Hid (img l n = var n) := img_no fun k h e => hex ⟨k, h, e⟩
    clear h h1 hsub hex
    go_enter Tryz.func73, Tryz.ntmps73
    go_wp2_with (first | (go_at_call 74; refine hp.mono ?_; rintro e w2 ⟨p, rfl, hb2⟩; have hz2 := (hb2.block w.heap.size (by simp)).trans hz; obtain ⟨⟨z0, z1⟩, y0, y1⟩ := two_facts hz2; have HB : Hid (Below w.heap.size w w2) := hb0.trans (hb2.mono (by simp)); clear hz2 hb2))
    refine bodyPost_ret (v := .agg #[.int .i64 1, .int .i64 1]) (by simp [results, Tryz.results73, go_sem, *]) rfl ⟨by rw [HI.out]; unfold ext; rw [(var_size n).1, (var_size n).2], ?_⟩
    exact set2_below HB.out _ _ _ (Nat.le_refl _)

theorem eg57 : ∀ args w, (callFunc 73 args).run Tryz.prog w = .ok (.enter 73 args) w := enters_of Tryz.func73 (by kernel_rfl) rfl

theorem extents_of (l : List Bd) (hsub : IsSub l) (v : Value) (B1 B2 g : Nat) (W0 : World) (h : ExtAt W0 l v B1 B2 g) : OfAt W0 73 #[.pointer (some ⟨B1, 0, none⟩), .pointer (some ⟨B2, 0, none⟩)] (img l) :=
  fun n W hW => extents1_any l hsub n v B1 B2 g W (h.keep hW)

theorem img_size (l : List Bd) (h : ∀ x ∈ l, Rt x.2) (n : Int) : (img l n).size ≤ 4000 := by
  rcases img_mem l n with e | ⟨x, hx, e⟩
  · rw [e, (var_size n).1]; omega
  · rw [e]; exact (h x hx).size

end Go.Proofs.YtijihmncbaoklaaGreat

/-
  subst.extents.
-/
namespace Go.Proofs.YtijihmncbaoklaaGreat
open Go.RowKit

theorem Rt.wsize {t : T} (h : Rt t) : wrap64 t.size = t.size := by
  have h1 := h.size
  have h2 := size_pos t
  unfold wrap64
  omega

theorem set2_far {W : World} {g a b k o : Nat} {u v x : Value} (hk : k ≠ g) (h : W.cell? ⟨k, o, none⟩ = some x) : ((W.setCell ⟨g, a, none⟩ u).setCell ⟨g, b, none⟩ v).cell? ⟨k, o, none⟩ = some x := by
  rw [World.cell?_setCell_other _ _ _ _ (by intro e; injection e with e1 _; exact hk e1.symm), World.cell?_setCell_other _ _ _ _ (by intro e; injection e with e1 _; exact hk e1.symm)]
  exact h

set_option maxRecDepth 100000 in
set_option maxHeartbeats 4000000 in
theorem extents_any (l : List Bd) (v : Value) (w : World) (hl : BindsAt w v l) (hR : ∀ x ∈ l, Rt x.2) (hlen : l.length ≤ 4000) :
    Calls Tryz.prog 47 #[v] w fun e W' => (∃ B1 B2 g, e = .returned (.func (.func 73) #[] #[.pointer (some ⟨B1, 0, none⟩), .pointer (some ⟨B2, 0, none⟩)]) ∧ ExtAt W' l v B1 B2 g) ∧ Below w.heap.size w W' := by
  obtain ⟨a, c, rfl⟩ := hl.slice
  obtain ⟨i0, hi, hz0, hz1, hz2⟩ := info_parts Tryz.info134
  obtain ⟨arr, harr⟩ : ∃ arr, madeCells (Value.agg #[.int .i64 0, .int .i64 0]).cells (l.length * 2) = arr := ⟨_, rfl⟩
  have hs : arr.size = l.length * 2 := by rw [← harr]; simp [madeCells]
  have hmk : ∀ W : World, (Instr.makeSlice 136 (.int .i64 l.length) (.int .i64 l.length)).run Tryz.prog W = .ok (.slice (some ⟨W.heap.size, 0, none⟩) l.length l.length) (W.alloc (.cells arr 134)) := by
    intro W
    have := run_make (P := Tryz.prog) W 136 134 i0 _ Tryz.underlying136 hi hz0 .i64 .i64 l.length l.length (by omega) (Int.le_refl _) (by rw [hz2]; omega) (by omega)
    rw [hz1] at this
    simp only [Int.toNat_natCast, harr] at this
    exact this
  have hb1 := below_box w (.cells #[.slice a l.length c] 53)
  have hb2 := below_box (w.alloc (.cells #[.slice a l.length c] 53)) (.cells arr 134)
  have hb3 := below_box ((w.alloc (.cells #[.slice a l.length c] 53)).alloc (.cells arr 134)) (.cells #[.slice (some ⟨w.heap.size + 1, 0, none⟩) l.length l.length] 136)
  have hk1 : (w.alloc (.cells #[.slice a l.length c] 53)).cell? ⟨w.heap.size, 0, none⟩ = some (.slice a l.length c) := by rw [World.cell?_alloc_new]; rfl
  have hg2 := (MapKept.heap_alloc (w.alloc (.cells #[.slice a l.length c] 53)) (.cells arr 134)).1
  rw [World.size_alloc] at hg2
  have hk3 : (((w.alloc (.cells #[.slice a l.length c] 53)).alloc (.cells arr 134)).alloc (.cells #[.slice (some ⟨w.heap.size + 1, 0, none⟩) l.length l.length] 136)).cell? ⟨w.heap.size + 1 + 1, 0, none⟩ = some (.slice (some ⟨w.heap.size + 1, 0, none⟩) l.length l.length) := by
    have := World.cell?_alloc_new ((w.alloc (.cells #[.slice a l.length c] 53)).alloc (.cells arr 134)) #[.slice (some ⟨w.heap.size + 1, 0, none⟩) l.length l.length] 136 0
    rw [World.size_alloc, World.size_alloc] at this
    rw [this]
    rfl
  obtain ⟨W1, hW1⟩ : ∃ W1, ((w.alloc (.cells #[.slice a l.length c] 53)).alloc (.cells arr 134)).alloc (.cells #[.slice (some ⟨w.heap.size + 1, 0, none⟩) l.length l.length] 136) = W1 := ⟨_, rfl⟩
  have HZ : Hid (LE w W1 l 0 W1 ∧ Below w.heap.size w W1 ∧ W1.cell? ⟨w.heap.size, 0, none⟩ = some (.slice a l.length c)) := by
    rw [← hW1]
    refine ⟨⟨⟨⟨arr, (hb3.block _ (by simp)).trans hg2, hs⟩, fun j hj h => absurd h (by omega)⟩, hk3, Below.refl _ _, by simp⟩, hb1.trans ((hb2.mono (by simp)).trans (hb3.mono (by simp; omega))), kc hb3 (by simp; omega) (kc hb2 (by simp) hk1)⟩
  have HW1 : Hid (_ = W1) := hW1
  have HL : Hid (BindsAt w (.slice a l.length c) l ∧ ∀ x ∈ l, Rt x.2) := ⟨hl, hR⟩
  have f1 := kc hb2 (by simp) hk1
  have f2 := kc hb3 (by simp; omega) f1
  clear hW1 hl hR harr hi hz0 hz1 hz2 hs hb1 hb2 hb3 hg2 hk3
  go_enter Tryz.func47, Tryz.ntmps47
  go_wp2
  go_loopw [11] (fun vi wr => ∃ i : Nat, vi = .int .i64 i ∧ i ≤ l.length ∧ LE w W1 l i wr) (fun vi _ => l.length - (intOf vi).toNat)
  case atStart => exact ⟨0, rfl, Nat.zero_le _, by rw [HW1.out]; exact HZ.out.1⟩
  case round =>
    obtain ⟨i, rfl, hi, hI⟩ := hrel
    have hbw : Below w.heap.size w wr := HZ.out.2.1.trans (hI.bel.mono (by omega))
    by_cases hlt : i < l.length
    · obtain ⟨b, o, s, e', hB0⟩ := HL.out.1.nth hlt
      cases e'
      have hB := hB0.keep hbw
      have hRt := HL.out.2 _ (List.getElem_mem hlt)
      have hst : Hid (∀ W, LE w W1 l i W → LE w W1 l (i + 1) ((W.setCell ⟨w.heap.size + 1, i * 2, none⟩ (.int .i64 l[i].2.size)).setCell ⟨w.heap.size + 1, i * 2 + 1, none⟩ (.int .i64 l[i].2.depth))) := fun W h => h.step hlt
      obtain ⟨x, hx⟩ : ∃ x, l[i] = x := ⟨_, rfl⟩
      rw [hx] at hB hRt hst
      obtain ⟨sa, sc, rfl, _, _⟩ := hB.sub.slice
      obtain ⟨g0, g1, g2, g3⟩ : wr.cell? ⟨b, o + i * 4, none⟩ = some (.int .i64 x.1) ∧ wr.cell? ⟨b, o + i * 4 + 1, none⟩ = some (.int .i64 x.2.v) ∧ wr.cell? ⟨b, o + i * 4 + 2, none⟩ = some (.string x.2.fn) ∧ wr.cell? ⟨b, o + i * 4 + 3, none⟩ = some (.slice sa x.2.args.length sc) := ⟨hB.c0, hB.c1, hB.c2, hB.c3⟩
      have hb1 := below_box wr (bdbox x (.slice sa x.2.args.length sc))
      obtain ⟨k0, k1, k2, k3⟩ := bdbox_cells wr x (.slice sa x.2.args.length sc)
      have hI1 := hI.al hb1
      have hA1 := ArgsAt.keep hb1 (Nat.le_refl _) hB.sub
      have hall : ∀ X, Below (wr.alloc (bdbox x (.slice sa x.2.args.length sc))).heap.size (wr.alloc (bdbox x (.slice sa x.2.args.length sc))) X → X.cell? ⟨w.heap.size + 1 + 1, 0, none⟩ = some (.slice (some ⟨w.heap.size + 1, 0, none⟩) l.length l.length) ∧ X.cell? ⟨wr.heap.size, 1, none⟩ = some (.int .i64 x.2.v) ∧ X.cell? ⟨wr.heap.size, 2, none⟩ = some (.string x.2.fn) ∧ X.cell? ⟨wr.heap.size, 3, none⟩ = some (.slice sa x.2.args.length sc) := fun X hX => ⟨kc hX (by have := hI1.siz; omega) hI1.b2, kc hX (by simp) k1, kc hX (by simp) k2, kc hX (by simp) k3⟩
      have h55 : ∀ X, Below (wr.alloc (bdbox x (.slice sa x.2.args.length sc))).heap.size (wr.alloc (bdbox x (.slice sa x.2.args.length sc))) X → Calls Tryz.prog 71 #[tval x.2 (.slice sa x.2.args.length sc)] X fun e X' => e = .returned (.int .i64 x.2.size) ∧ Hid (Below (wr.alloc (bdbox x (.slice sa x.2.args.length sc))).heap.size (wr.alloc (bdbox x (.slice sa x.2.args.length sc))) X') := fun X hX => (tsize_any x.2 _ X (ArgsAt.keep hX (Nat.le_refl _) hA1) hRt.short).mono fun e X' ⟨he, hb⟩ => ⟨by rw [he, hRt.wsize], hX.trans (hb.mono hX.size)⟩
      have h56 : ∀ X, Below (wr.alloc (bdbox x (.slice sa x.2.args.length sc))).heap.size (wr.alloc (bdbox x (.slice sa x.2.args.length sc))) X → Calls Tryz.prog 72 #[tval x.2 (.slice sa x.2.args.length sc)] X fun e X' => e = .returned (.int .i64 x.2.depth) ∧ Hid (Below (wr.alloc (bdbox x (.slice sa x.2.args.length sc))).heap.size (wr.alloc (bdbox x (.slice sa x.2.args.length sc))) X') := fun X hX => (tdepth_any x.2 _ X (ArgsAt.keep hX (Nat.le_refl _) hA1) hRt.short).mono fun e X' ⟨he, hb⟩ => ⟨he, hX.trans (hb.mono hX.size)⟩
      have hSd : Hid (Below (wr.alloc (bdbox x (.slice sa x.2.args.length sc))).heap.size (wr.alloc (bdbox x (.slice sa x.2.args.length sc))) (wr.alloc (bdbox x (.slice sa x.2.args.length sc))).drew) := (Below.refl _ _).drew
      obtain ⟨n0, n1, n2, n3⟩ := hall _ hSd.out
      have HI1 : Hid (LE w W1 l i (wr.alloc (bdbox x (.slice sa x.2.args.length sc)))) := hI1
      obtain ⟨S, hS⟩ : ∃ S : World → Prop, (fun X => Below (wr.alloc (bdbox x (.slice sa x.2.args.length sc))).heap.size (wr.alloc (bdbox x (.slice sa x.2.args.length sc))) X) = S := ⟨_, rfl⟩
      have HSS : Hid (∀ X, S X → Below (wr.alloc (bdbox x (.slice sa x.2.args.length sc))).heap.size (wr.alloc (bdbox x (.slice sa x.2.args.length sc))) X) := by rw [← hS]; exact fun X h => h
      have hall' : ∀ X, S X → X.cell? ⟨w.heap.size + 1 + 1, 0, none⟩ = some (.slice (some ⟨w.heap.size + 1, 0, none⟩) l.length l.length) ∧ X.cell? ⟨wr.heap.size, 1, none⟩ = some (.int .i64 x.2.v) ∧ X.cell? ⟨wr.heap.size, 2, none⟩ = some (.string x.2.fn) ∧ X.cell? ⟨wr.heap.size, 3, none⟩ = some (.slice sa x.2.args.length sc) := by rw [← hS]; exact hall
      have h55' : ∀ X, S X → Calls Tryz.prog 71 #[tval x.2 (.slice sa x.2.args.length sc)] X fun e X' => e = .returned (.int .i64 x.2.size) ∧ S X' := by rw [← hS]; exact h55
      have h56' : ∀ X, S X → Calls Tryz.prog 72 #[tval x.2 (.slice sa x.2.args.length sc)] X fun e X' => e = .returned (.int .i64 x.2.depth) ∧ S X' := by rw [← hS]; exact h56
      have hSd' : S (wr.alloc (bdbox x (.slice sa x.2.args.length sc))).drew := by rw [← hS]; exact hSd.out
      have hszz := hI.siz
      clear hS hall h55 h56 hSd hB hB0 hx hRt hb1 hI1 hA1 hI hbw
      go_wp2
      go_region_held3 (fun X => X.cell? ⟨w.heap.size + 1 + 1, 0, none⟩ = some (.slice (some ⟨w.heap.size + 1, 0, none⟩) l.length l.length) ∧ X.cell? ⟨wr.heap.size, 1, none⟩ = some (.int .i64 x.2.v) ∧ X.cell? ⟨wr.heap.size, 2, none⟩ = some (.string x.2.fn) ∧ X.cell? ⟨wr.heap.size, 3, none⟩ = some (.slice sa x.2.args.length sc)) (first | exact ⟨n0, n1, n2, n3⟩ | exact K3 | exact K4 | exact ⟨set2_far (by omega) K4.1, set2_far (by omega) K4.2.1, set2_far (by omega) K4.2.2.1, set2_far (by omega) K4.2.2.2⟩) (first
        | (go_at_call 71; refine (h55' _ hSd').mono ?_; rintro e W3 ⟨rfl, HW3⟩; have K3 := hall' _ HW3)
        | (go_at_call 72; refine (h56' _ HW3).mono ?_; rintro e W4 ⟨rfl, HW4⟩; have K4 := hall' _ HW4; have hI4 := HI1.out.al (HSS.out _ HW4); obtain ⟨_, ⟨u0, u1, c0, c1⟩, y0, y1⟩ := hI4.row.facts hlt; have HI4 : Hid (LE w W1 l i W4) := hI4; clear hI4))
      go_wp2
      go_roundw
      case rel => exact ⟨i + 1, by go_num, by omega, hst.out _ HI4⟩
      case measure => simp [intOf]; omega
    · have HE : Hid (ExtAt wr l (.slice a l.length c) w.heap.size (w.heap.size + 1 + 1) (w.heap.size + 1) ∧ Below w.heap.size w wr) := ⟨⟨HL.out.1.keep hbw, kc hI.bel (Nat.lt_succ_self _) HZ.out.2.2, hI.b2, by have := hI.row; rwa [show i = l.length by omega] at this⟩, hbw⟩
      clear hI hbw
      go_wp2
      go_ret
      exact ⟨⟨_, _, _, rfl, HE.out.1⟩, HE.out.2⟩

end Go.Proofs.YtijihmncbaoklaaGreat

/-
  subst.Apply.
-/
namespace Go.Proofs.YtijihmncbaoklaaGreat
open Go.RowKit

/-- A substitution all of whose terms are so small that all can be counted. -/
structure Sb (l : List Bd) : Prop where
  sub : IsSub l
  rt : ∀ x ∈ l, Rt x.2

theorem set3_farc {W : World} {g a k o : Nat} {u v s x : Value} (hk : k ≠ g) (h : W.cell? ⟨k, o, none⟩ = some x) : (set3 W g a u v s).cell? ⟨k, o, none⟩ = some x :=
  (World.cell?_of_block (a := ⟨k, o, none⟩) (set3_other _ _ _ _ _ _ k hk)).trans h

set_option maxRecDepth 100000 in
set_option maxHeartbeats 4000000 in
/-- subst.Apply, where all is right and what comes is right. -/
theorem apply_ok (l : List Bd) (hl : Sb l) (t : T) (ht : Rt t) (ht0 : t.rightW = 0) (hfit : fitsW (t.app (img l)) = 0) (v sl : Value) (w : World) (hb : BindsAt w v l) (ha : ArgsAt w sl t.args) :
    Calls Tryz.prog 22 #[v, tval t sl] w fun e W' => ∃ sl', e = .returned (.tuple #[tval (t.app (img l)) sl', .int .i64 0]) ∧ ArgsFr w.heap.size W' sl' (t.app (img l)).args ∧ Below w.heap.size w W' := by
  obtain ⟨a, c, rfl⟩ := hb.slice
  obtain ⟨sa, sc, rfl, _, _⟩ := ha.slice
  have hA0 := ApI.start w l (.slice a l.length c) t (.slice sa t.args.length sc) hb ha
  have h13 : ∀ X, ApI w l (.slice a l.length c) t (.slice sa t.args.length sc) X → Calls Tryz.prog 45 #[.slice a l.length c] X fun e X' => e = .returned (.int .i64 0) ∧ ApI w l (.slice a l.length c) t (.slice sa t.args.length sc) X' := fun X hX => (sright_any l _ X hX.binds (fun x hx => (hl.rt x hx).short)).mono fun e X' ⟨he, hb⟩ => ⟨by rw [he, subW_t (isSub_iff.2 hl.sub)], hX.keep hb⟩
  have h28 : ∀ X, ApI w l (.slice a l.length c) t (.slice sa t.args.length sc) X → Calls Tryz.prog 27 #[tval t (.slice sa t.args.length sc)] X fun e X' => e = .returned (.int .i64 0) ∧ ApI w l (.slice a l.length c) t (.slice sa t.args.length sc) X' := fun X hX => (tright_any t _ X hX.args ht.short).mono fun e X' ⟨he, hb⟩ => ⟨by rw [he, ht0], hX.keep hb⟩
  have h30 : ∀ X, ApI w l (.slice a l.length c) t (.slice sa t.args.length sc) X → Calls Tryz.prog 47 #[.slice a l.length c] X fun e X' => (∃ B1 B2 g, e = .returned (.func (.func 73) #[] #[.pointer (some ⟨B1, 0, none⟩), .pointer (some ⟨B2, 0, none⟩)]) ∧ ExtAt X' l (.slice a l.length c) B1 B2 g) ∧ ApI w l (.slice a l.length c) t (.slice sa t.args.length sc) X' := fun X hX => (extents_any l _ X hX.binds hl.rt hl.sub.1).mono fun e X' ⟨he, hb⟩ => ⟨he, hX.keep hb⟩
  have h29 : ∀ X B1 B2 g, ApI w l (.slice a l.length c) t (.slice sa t.args.length sc) X → ExtAt X l (.slice a l.length c) B1 B2 g → Calls Tryz.prog 46 #[tval t (.slice sa t.args.length sc), .func (.func 73) #[] #[.pointer (some ⟨B1, 0, none⟩), .pointer (some ⟨B2, 0, none⟩)]] X fun e X' => e = .returned (.int .i64 0) ∧ ApI w l (.slice a l.length c) t (.slice sa t.args.length sc) X' := fun X B1 B2 g hX hE => (fits_any X 73 _ (img l) eg57 (extents_of l hl.sub _ B1 B2 g X hE) (img_size l hl.rt) t _ X (Below.refl _ _) hX.args ht.size).mono fun e X' ⟨he, hb⟩ => ⟨by rw [he, hfit], hX.keep hb⟩
  have h32 : ∀ X, ApI w l (.slice a l.length c) t (.slice sa t.args.length sc) X → Calls Tryz.prog 49 #[.slice a l.length c] X fun e X' => ∃ B, e = .returned (.func (.func 75) #[] #[.pointer (some ⟨B, 0, none⟩)]) ∧ X'.cell? ⟨B, 0, none⟩ = some (.slice a l.length c) ∧ ApI w l (.slice a l.length c) t (.slice sa t.args.length sc) X' := fun X hX => (copies_any a l.length c X).mono fun e X' ⟨he, hx⟩ => ⟨X.heap.size, he, by rw [hx, World.cell?_alloc_new]; rfl, by rw [hx]; exact hX.keep (below_box X _)⟩
  have h31 : ∀ X B, ApI w l (.slice a l.length c) t (.slice sa t.args.length sc) X → X.cell? ⟨B, 0, none⟩ = some (.slice a l.length c) → Calls Tryz.prog 48 #[tval t (.slice sa t.args.length sc), .func (.func 75) #[] #[.pointer (some ⟨B, 0, none⟩)]] X fun e X' => ∃ pa pc, e = .returned (tval (t.app (img l)) (.slice pa (t.app (img l)).args.length pc)) ∧ ArgsFr (w.heap.size + 2) X' (.slice pa (t.app (img l)).args.length pc) (t.app (img l)).args ∧ ApI w l (.slice a l.length c) t (.slice sa t.args.length sc) X' := fun X B hX hB => (rep_any X 75 _ (img l) eg59 (copies_stand l hl.sub _ B X hX.binds hB) t _ X (Below.refl _ _) hX.args ht.shape).mono fun e X' ⟨sl, he, hf, hb⟩ => by
    obtain ⟨pa, pc, rfl⟩ := hf.slice
    exact ⟨pa, pc, he, hf.low hX.siz, hX.keep hb⟩
  have hdr : ∀ X, ApI w l (.slice a l.length c) t (.slice sa t.args.length sc) X → ApI w l (.slice a l.length c) t (.slice sa t.args.length sc) X.drew := fun X h => h.keep (Below.refl _ X).drew
  have hC : ∀ X, ApI w l (.slice a l.length c) t (.slice sa t.args.length sc) X → X.cell? ⟨w.heap.size, 0, none⟩ = some (.int .i64 t.v) ∧ X.cell? ⟨w.heap.size, 1, none⟩ = some (.string t.fn) ∧ X.cell? ⟨w.heap.size, 2, none⟩ = some (.slice sa t.args.length sc) := fun X h => (box_facts h.tb).1
  have hRb : ∀ X, ApI w l (.slice a l.length c) t (.slice sa t.args.length sc) X → (X.cell? ⟨w.heap.size + 1, 0, none⟩ = some (.int .i64 0) ∧ X.cell? ⟨w.heap.size + 1, 1, none⟩ = some (.string ⟨#[]⟩) ∧ X.cell? ⟨w.heap.size + 1, 2, none⟩ = some (.slice none 0 0)) ∧ (X.frozen? ⟨w.heap.size + 1, 0, none⟩ = false ∧ X.frozen? ⟨w.heap.size + 1, 1, none⟩ = false ∧ X.frozen? ⟨w.heap.size + 1, 2, none⟩ = false) := fun X h => box_facts h.rb
  have hbl : Hid (∀ X, ApI w l (.slice a l.length c) t (.slice sa t.args.length sc) X → Below w.heap.size w X) := fun X h => h.bel
  obtain ⟨u, hu⟩ : ∃ u, t.app (img l) = u := ⟨_, rfl⟩
  rw [hu] at h31 ⊢
  obtain ⟨S, hS⟩ : ∃ S, ApI w l (.slice a l.length c) t (.slice sa t.args.length sc) = S := ⟨_, rfl⟩
  rw [hS] at hA0 h13 h28 h30 h29 h32 h31 hdr hC hRb hbl
  clear hS hu hb ha hfit ht ht0 hl
  obtain ⟨k0, k1, k2⟩ := hC _ hA0
  go_enter Tryz.func22, Tryz.ntmps22
  go_wp2_with (first
    | (go_at_call 27; refine (h28 _ HW2).mono ?_; rintro e W3 ⟨rfl, HW3⟩)
    | (go_at_call 45; refine (h13 _ hA0).mono ?_; rintro e W2 ⟨rfl, HW2⟩; obtain ⟨j0, j1, j2⟩ := hC _ HW2))
  have hSd := hdr _ HW3
  obtain ⟨n0, n1, n2⟩ := hC _ hSd
  clear k0 k1 k2 j0 j1 j2 h13 h28 hA0
  go_region_held3 (fun X => X.cell? ⟨w.heap.size, 0, none⟩ = some (.int .i64 t.v) ∧ X.cell? ⟨w.heap.size, 1, none⟩ = some (.string t.fn) ∧ X.cell? ⟨w.heap.size, 2, none⟩ = some (.slice sa t.args.length sc)) (first | exact ⟨n0, n1, n2⟩ | exact K4 | exact K5) (first
    | (go_at_call 47; refine (h30 _ hSd).mono ?_; rintro e W4 ⟨⟨B1, B2, g, rfl, hE⟩, HW4⟩; have K4 := hC _ HW4)
    | (go_at_call 46; refine (h29 _ B1 B2 g HW4 hE).mono ?_; rintro e W5 ⟨rfl, HW5⟩; have K5 := hC _ HW5))
  clear n0 n1 n2 K4 K5 hE
  go_wp2
  have hSd6 := hdr _ HW5
  obtain ⟨m0, m1, m2⟩ := hC _ hSd6
  go_region_held3 (fun X => X.cell? ⟨w.heap.size, 0, none⟩ = some (.int .i64 t.v) ∧ X.cell? ⟨w.heap.size, 1, none⟩ = some (.string t.fn) ∧ X.cell? ⟨w.heap.size, 2, none⟩ = some (.slice sa t.args.length sc)) (first | exact ⟨m0, m1, m2⟩ | exact K7 | exact K8 | exact ⟨set3_farc (by omega) K8.1, set3_farc (by omega) K8.2.1, set3_farc (by omega) K8.2.2⟩) (first
    | (go_at_call 49; refine (h32 _ hSd6).mono ?_; rintro e W7 ⟨B, rfl, hB, HW7⟩; have K7 := hC _ HW7)
    | (go_at_call 48; refine (h31 _ B HW7 hB).mono ?_; rintro e W8 ⟨pa, pc, rfl, hf8, HW8⟩; have K8 := hC _ HW8; obtain ⟨⟨z0, z1, z2⟩, y0, y1, y2⟩ := hRb _ HW8; have HF8 : Hid (ArgsFr (w.heap.size + 2) W8 (.slice pa u.args.length pc) u.args) := hf8; clear hf8))
  go_wp2
  refine bodyPost_ret (v := .tuple #[tval u (.slice pa u.args.length pc), .int .i64 0]) (by simp [results, Tryz.results22, go_sem, *]) rfl ⟨_, rfl, ?_, ?_⟩
  · exact (HF8.out.keep (W' := set3 W8 (w.heap.size + 1) 0 _ _ _) (by simp) (fun k hk _ => set3_other _ _ _ _ _ _ k (by omega))).low (by omega)
  · exact set3_below (hbl.out _ HW8) _ 0 _ _ _ (Nat.le_succ _)

end Go.Proofs.YtijihmncbaoklaaGreat
