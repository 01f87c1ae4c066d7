/-
  subst.grown and subst.fits.
-/
import Derived.Test.YtblfbmdnkgebdaaSH
namespace Go.Proofs.Ytblfbmdnkgebdaa
open Go.RowKit

/-- Two cells of a block. -/
theorem two_facts {X : World} {n : Nat} {u v : Value} (h : X.heap[n]? = some (.cells #[u, v] 105 (0, 0))) : (X.cell? ⟨n, 0, none⟩ = some u ∧ X.cell? ⟨n, 1, none⟩ = some v) ∧ (X.frozen? ⟨n, 0, none⟩ = false ∧ X.frozen? ⟨n, 1, none⟩ = false) := by
  refine ⟨⟨?_, ?_⟩, ⟨?_, ?_⟩⟩ <;> simp [World.cell?, World.frozen?, h]

theorem set2_block {X : World} {n : Nat} {u v : Value} (h : X.heap[n]? = some (.cells #[u, v] 105 (0, 0))) (u' v' : Value) : ((X.setCell ⟨n, 0, none⟩ u').setCell ⟨n, 1, none⟩ v').heap[n]? = some (.cells #[u', v'] 105 (0, 0)) := by
  have e1 := heap_setCell_same X n 0 _ 105 u' h
  have e2 := heap_setCell_same _ n 1 _ 105 v' e1
  simpa using e2

theorem set2_below {n : Nat} {w W : World} (h : Below n w W) (b : Nat) (u v : Value) (hb : n ≤ b) : Below n w ((W.setCell ⟨b, 0, none⟩ u).setCell ⟨b, 1, none⟩ v) :=
  (h.setCell (p := ⟨b, 0, none⟩) hb _).setCell (p := ⟨b, 1, none⟩) hb _

/-- What grown does at a term. -/
def GrownAt (W0 : World) (g : Nat) (lb : Array Value) (σ : Int → T) (t : T) : Prop :=
  ∀ (sl : Value) (w : World), Below W0.heap.size W0 w → ArgsAt w sl t.args → t.size ≤ 4000 →
    Calls Try.prog 65 #[tval t sl, .func (.func g) #[] lb] w fun e W' => e = .returned (ext (t.app σ)) ∧ Below w.heap.size w W'

set_option maxRecDepth 100000 in
set_option maxHeartbeats 2000000 in
theorem grown_var (W0 : World) (g : Nat) (lb : Array Value) (σ : Int → T) (eg : ∀ args w, (callFunc g args).run Try.prog w = .ok (.enter g args) w) (hof : OfAt W0 g lb σ) (t : T) (a : Option Addr) (m c : Nat) (w : World) (hw : Below W0.heap.size W0 w) (h0 : t.fn.size = 0) :
    Calls Try.prog 65 #[tval t (.slice a m c), .func (.func g) #[] lb] w fun e W' => e = .returned (ext (t.app σ)) ∧ Below w.heap.size w W' := by
  have hap : t.app σ = σ t.v := by rw [T.app_eq, if_pos h0]
  rw [hap]
  have hdd : t.fn.toList.isEmpty = true := by rw [ba_isEmpty]; exact decide_eq_true h0
  have hb2 : Below w.heap.size w ((w.alloc (tbox t (.slice a m c))).alloc (.cells #[.int .i64 0, .int .i64 0] 105)) := below_box2 w _ _
  have hz : ((w.alloc (tbox t (.slice a m c))).alloc (.cells #[.int .i64 0, .int .i64 0] 105)).heap[w.heap.size + 1]? = some (.cells #[.int .i64 0, .int .i64 0] 105 (0, 0)) := by
    have := (MapKept.heap_alloc (w.alloc (tbox t (.slice a m c))) (.cells #[.int .i64 0, .int .i64 0] 105)).1
    rw [World.size_alloc] at this
    exact this
  have hc := hof t.v _ (hw.trans (hb2.mono hw.size))
  obtain ⟨t0, t1, t2⟩ := tbox_cells w t (.slice a m c)
  have hbb := below_box (w.alloc (tbox t (.slice a m c))) (.cells #[.int .i64 0, .int .i64 0] 105)
  have t0' := kc hbb (by simp) t0
  have t1' := kc hbb (by simp) t1
  clear t0 t1 t2 hbb hap h0
  go_enter Try.func65, Try.ntmps65
  go_wp2_with (first | (go_at_fn g; refine hc.mono ?_; rintro e w3 ⟨rfl, hb3⟩; have hz3 := (hb3.block (w.heap.size + 1) (by simp)).trans hz; obtain ⟨⟨z0, z1⟩, y0, y1⟩ := two_facts hz3; have HF : Hid (Below w.heap.size w w3) := hb2.trans (hb3.mono (by simp; omega)); clear hb3 hz3))
  refine bodyPost_ret (v := ext (σ t.v)) (by simp [results, Try.results65, go_sem, *]) rfl ⟨rfl, ?_⟩
  exact set2_below HF.out _ _ _ (Nat.le_succ _)

/-- What stands in grown's loop. -/
structure GrI (w W1 : World) (s d : Int) (W : World) : Prop where
  box : W.heap[w.heap.size + 1 + 1]? = some (.cells #[.int .i64 s, .int .i64 d] 105 (0, 0))
  bel : Below (w.heap.size + 1 + 1) W1 W
  siz : w.heap.size + 3 ≤ W.heap.size

theorem GrI.al {w W1 : World} {s d : Int} {W W' : World} (h : GrI w W1 s d W) (hb : Below W.heap.size W W') : GrI w W1 s d W' :=
  ⟨(hb.block _ (by have := h.siz; omega)).trans h.box, h.bel.trans (hb.mono (by have := h.siz; omega)), Nat.le_trans h.siz hb.size⟩

set_option maxRecDepth 100000 in
set_option maxHeartbeats 4000000 in
theorem grown_fn (W0 : World) (g : Nat) (lb : Array Value) (σ : Int → T) (hσ : ∀ n, (σ n).size ≤ 4000) (t : T) (ih : ∀ a ∈ t.args, GrownAt W0 g lb σ a) (a : Option Addr) (c : Nat) (w : World) (hw : Below W0.heap.size W0 w) (ha : ArgsAt w (.slice a t.args.length c) t.args) (hsz : t.size ≤ 4000) (h0 : t.fn.size ≠ 0) :
    Calls Try.prog 65 #[tval t (.slice a t.args.length c), .func (.func g) #[] lb] w fun e W' => e = .returned (ext (t.app σ)) ∧ Below w.heap.size w W' := by
  have hap : t.app σ = .mk 0 t.fn (t.args.map (T.app σ)) := by rw [T.app_eq, if_neg h0]
  have hdd : t.fn.toList.isEmpty = false := by rw [ba_isEmpty]; exact decide_eq_false h0
  obtain ⟨fs, hfs⟩ : ∃ fs : T → Int, ∀ a, (a.app σ).size = fs a := ⟨fun a => (a.app σ).size, fun _ => rfl⟩
  obtain ⟨fd, hfd⟩ : ∃ fd : T → Int, ∀ a, (a.app σ).depth = fd a := ⟨fun a => (a.app σ).depth, fun _ => rfl⟩
  have hpos : ∀ a, 1 ≤ fs a := fun a => by rw [← hfs]; exact size_pos _
  have hfds : ∀ a, fd a ≤ fs a := fun a => by rw [← hfs, ← hfd]; exact depth_le_size _
  have hS : (t.app σ).size = 1 + (t.args.map fs).sum := by
    rw [hap, T.size_eq]
    show 1 + ((t.args.map (T.app σ)).map T.size).sum = _
    rw [List.map_map]
    congr 2
    exact List.map_congr_left fun a _ => hfs a
  have hD : (t.app σ).depth = (t.args.map fd).foldl max 0 + 1 := by
    rw [hap, T.depth_eq]
    show ((t.args.map (T.app σ)).map T.depth).foldl max 0 + 1 = _
    rw [List.map_map]
    congr 2
    exact List.map_congr_left fun a _ => hfd a
  have hbig : 1 + (t.args.map fs).sum ≤ 16000000 := by
    rw [← hS]
    have := app_size σ hσ t
    omega
  have hlen : t.args.length ≤ 4000 := by
    have h1 := t.size_eq
    have h2 : (t.args.length : Int) ≤ (t.args.map T.size).sum := by
      generalize t.args = l
      induction l with
      | nil => simp
      | cons x r ihl =>
        have := size_pos x
        rw [List.map_cons, List.sum_cons, List.length_cons]
        omega
    omega
  have hasz : ∀ x ∈ t.args, x.size ≤ 4000 := by
    intro x hx
    obtain ⟨j, hj, rfl⟩ := List.mem_iff_getElem.1 hx
    have h1 := t.size_eq
    have h2 := upto_le T.size t.args (fun a _ => by have := size_pos a; omega) j
    have h3 := upto_le T.size t.args (fun a _ => by have := size_pos a; omega) (j + 1)
    rw [upto_succ _ _ _ hj] at h3
    omega
  have HS : Hid ((∀ k, 0 ≤ upto fs t.args k ∧ upto fs t.args k ≤ (t.args.map fs).sum) ∧ (∀ k, mx fd t.args k ≤ upto fs t.args k) ∧ (t.app σ).size = 1 + (t.args.map fs).sum ∧ (t.app σ).depth = (t.args.map fd).foldl max 0 + 1 ∧ 1 + (t.args.map fs).sum ≤ 16000000 ∧ (∀ x ∈ t.args, x.size ≤ 4000)) :=
    ⟨fun k => upto_le fs t.args (fun a _ => by have := hpos a; omega) k, fun k => mx_le_sum fd fs t.args (fun a _ => ⟨hfds a, by have := hpos a; omega⟩) k, hS, hD, hbig, hasz⟩
  have HF : Hid ((∀ a, (a.app σ).size = fs a) ∧ ∀ a, (a.app σ).depth = fd a) := ⟨hfs, hfd⟩
  obtain ⟨t0, t1, t2⟩ := tbox_cells w t (.slice a t.args.length c)
  obtain ⟨W2, hW2⟩ : ∃ W2, (w.alloc (tbox t (.slice a t.args.length c))).alloc (.cells #[.int .i64 0, .int .i64 0] 105) = W2 := ⟨_, rfl⟩
  have hbb := below_box (w.alloc (tbox t (.slice a t.args.length c))) (.cells #[.int .i64 0, .int .i64 0] 105)
  have hb2 := below_box2 w (tbox t (.slice a t.args.length c)) (.cells #[.int .i64 0, .int .i64 0] 105)
  have t1' := kc hbb (by simp) t1
  have t2' := kc hbb (by simp) t2
  have hz := (MapKept.heap_alloc (w.alloc (tbox t (.slice a t.args.length c))) (.cells #[.int .i64 0, .int .i64 0] 105)).1
  rw [World.size_alloc] at hz
  have hb3 := below_box ((w.alloc (tbox t (.slice a t.args.length c))).alloc (.cells #[.int .i64 0, .int .i64 0] 105)) (.cells #[.int .i64 1, .int .i64 0] 105)
  have hz3 := (MapKept.heap_alloc ((w.alloc (tbox t (.slice a t.args.length c))).alloc (.cells #[.int .i64 0, .int .i64 0] 105)) (.cells #[.int .i64 1, .int .i64 0] 105)).1
  rw [World.size_alloc, World.size_alloc] at hz3
  obtain ⟨W1, hW1⟩ : ∃ W1, ((w.alloc (tbox t (.slice a t.args.length c))).alloc (.cells #[.int .i64 0, .int .i64 0] 105)).alloc (.cells #[.int .i64 1, .int .i64 0] 105) = W1 := ⟨_, rfl⟩
  have HZ : Hid (W1.heap[w.heap.size + 1]? = some (.cells #[.int .i64 0, .int .i64 0] 105 (0, 0)) ∧ Below w.heap.size w W1 ∧ GrI w W1 (1 + upto fs t.args 0) (mx fd t.args 0) W1) := by
    rw [← hW1]
    refine ⟨(hb3.block _ (by simp)).trans hz, hb2.trans (hb3.mono (by simp; omega)), ⟨?_, Below.refl _ _, by simp⟩⟩
    rw [upto_zero, mx_zero]
    exact hz3
  have HW1 : Hid (_ = W1) := hW1
  have HA : Hid (ArgsAt w (.slice a t.args.length c) t.args) := ha
  have e2 := kc hb3 (by simp; omega) t2'
  clear hW2 hW1 t0 t1 t2 hbb hb2 hz hb3 hz3 hfs hfd hpos hfds hS hD hbig hasz ha h0 hsz hap hσ
  go_enter Try.func65, Try.ntmps65
  go_wp2
  go_loopw [20] (fun vi wr => ∃ i : Nat, vi = .int .i64 i ∧ i ≤ t.args.length ∧ GrI w W1 (1 + upto fs t.args i) (mx fd t.args i) wr) (fun vi _ => t.args.length - (intOf vi).toNat)
  case atStart => exact ⟨0, rfl, Nat.zero_le _, by rw [HW1.out]; exact HZ.out.2.2⟩
  case round =>
    obtain ⟨i, rfl, hi, hI⟩ := hrel
    have hbw : Below w.heap.size w wr := HZ.out.2.1.trans (hI.bel.mono (by omega))
    have b1 := HS.out.1 i
    have b2 := HS.out.2.1 i
    have b3 := mx_nonneg fd t.args i
    have b4 := HS.out.2.2.2.2.1
    by_cases hlt : i < t.args.length
    · obtain ⟨ba, oa, sl, e', hba, a0, a1, a2, hs⟩ := (ArgsAt.keep hbw (Nat.le_refl _) HA.out).nth hlt
      cases e'
      have hup : 1 + upto fs t.args (i + 1) = 1 + upto fs t.args i + fs t.args[i] := by rw [upto_succ fs t.args i hlt]; omega
      have hmx := mx_succ fd t.args i hlt
      have b5 := HS.out.1 (i + 1)
      rw [upto_succ fs t.args i hlt] at b5
      have ihx := ih t.args[i] (List.getElem_mem hlt)
      have hxs := HS.out.2.2.2.2.2 _ (List.getElem_mem hlt)
      obtain ⟨x, hx⟩ : ∃ x, t.args[i] = x := ⟨_, rfl⟩
      rw [hx] at a0 a1 hs ihx hup hmx b5 hxs
      obtain ⟨sa, sc, rfl, _, _⟩ := hs.slice
      have hb1 := below_box wr (tbox x (.slice sa x.args.length sc))
      have hcall := ihx (.slice sa x.args.length sc) (wr.alloc (tbox x (.slice sa x.args.length sc))) (hw.trans ((hbw.trans (hb1.mono hbw.size)).mono hw.size)) (ArgsAt.keep hb1 (Nat.le_refl _) hs) hxs
      have hcall' : Calls Try.prog 65 #[tval x (.slice sa x.args.length sc), .func (.func g) #[] lb] (wr.alloc (tbox x (.slice sa x.args.length sc))) fun e W' => e = .returned (.agg #[.int .i64 (fs x), .int .i64 (fd x)]) ∧ Below (wr.alloc (tbox x (.slice sa x.args.length sc))).heap.size (wr.alloc (tbox x (.slice sa x.args.length sc))) W' := by
        have := hcall
        unfold ext at this
        rw [HF.out.1 x, HF.out.2 x] at this
        exact this
      obtain ⟨S, hSv⟩ : ∃ S, 1 + upto fs t.args i = S := ⟨_, rfl⟩
      obtain ⟨D, hDv⟩ : ∃ D, mx fd t.args i = D := ⟨_, rfl⟩
      rw [hSv] at hI hup
      rw [hDv] at hI hmx b2 b3
      have hI1 := hI.al hb1
      have HI1 : Hid (GrI w W1 S D (wr.alloc (tbox x (.slice sa x.args.length sc)))) := hI1
      have HU : Hid (1 + upto fs t.args (i + 1) = S + fs x ∧ mx fd t.args (i + 1) = max D (fd x)) := ⟨hup, hmx⟩
      obtain ⟨k0, k1, k2⟩ := tbox_cells wr x (.slice sa x.args.length sc)
      obtain ⟨p, hp⟩ : ∃ p, fs x = p := ⟨_, rfl⟩
      obtain ⟨q, hq⟩ : ∃ q, fd x = q := ⟨_, rfl⟩
      rw [hp, hq] at hcall' HU
      rw [hp] at b5
      have wa : IntKind.i64.wrap (S + p) = S + p := wrap_small _ (by omega) (by omega)
      clear hx ihx hs hb1 hI1 hI ih hcall hup hmx hp hq hxs
      go_wp2_with (first | (go_at_call 65; refine hcall'.mono ?_; rintro e w3 ⟨rfl, hb3⟩; have hI3 := HI1.out.al hb3; have hI4 := hI3.al (below_box w3 (.cells #[.int .i64 p, .int .i64 q] 105)); obtain ⟨⟨z0, z1⟩, y0, y1⟩ := two_facts hI4.box; have H4 : Hid (GrI w W1 S D (w3.alloc (.cells #[.int .i64 p, .int .i64 q] 105))) := hI4; clear hb3 hI3 hI4))
      all_goals go_roundw
      case rel => exact ⟨i + 1, by go_num, by omega, by rw [HU.out.1, HU.out.2]; first | exact ⟨set2_block H4.out.box _ _, set2_below H4.out.bel _ _ _ (Nat.le_refl _), by have := H4.out.siz; simp at this ⊢; omega⟩ | exact ⟨by rw [show max D q = D by omega]; exact set2_block H4.out.box _ _, set2_below H4.out.bel _ _ _ (Nat.le_refl _), by have := H4.out.siz; simp at this ⊢; omega⟩ | exact ⟨by rw [show max D q = q by omega]; exact set2_block H4.out.box _ _, set2_below H4.out.bel _ _ _ (Nat.le_refl _), by have := H4.out.siz; simp at this ⊢; omega⟩⟩
      case measure => simp [intOf]; omega
    · have hz3 := (hI.bel.block (w.heap.size + 1) (by omega)).trans HZ.out.1
      obtain ⟨⟨z0, z1⟩, y0, y1⟩ := two_facts hz3
      obtain ⟨⟨x0, x1⟩, v0, v1⟩ := two_facts hI.box
      have hS := HS.out.2.2.1
      have hD := HS.out.2.2.2.1
      have ei : t.args.length ≤ i := by omega
      rw [← upto_all fs t.args i ei] at hS
      rw [← mx_all fd t.args i ei] at hD
      obtain ⟨S, hSv⟩ : ∃ S, 1 + upto fs t.args i = S := ⟨_, rfl⟩
      obtain ⟨D, hDv⟩ : ∃ D, mx fd t.args i = D := ⟨_, rfl⟩
      rw [hSv] at x0 hS
      rw [hDv] at x1 hD b2 b3
      have wa : IntKind.i64.wrap (D + 1) = D + 1 := wrap_small _ (by omega) (by omega)
      have HR : Hid ((t.app σ).size = S ∧ (t.app σ).depth = D + 1 ∧ Below w.heap.size w wr) := ⟨hS, hD, hbw⟩
      clear hI hbw hz3 ih hS hD
      go_wp2
      refine bodyPost_ret (v := .agg #[.int .i64 S, .int .i64 (D + 1)]) (by simp [results, Try.results65, go_sem, *]) rfl ⟨by unfold ext; rw [HR.out.1, HR.out.2.1], ?_⟩
      exact set2_below (HR.out.2.2.setCell (p := ⟨w.heap.size + 1 + 1, 1, none⟩) (by simp only; omega) _) _ _ _ (Nat.le_succ _)

theorem grown_any (W0 : World) (g : Nat) (lb : Array Value) (σ : Int → T) (eg : ∀ args w, (callFunc g args).run Try.prog w = .ok (.enter g args) w) (hof : OfAt W0 g lb σ) (hσ : ∀ n, (σ n).size ≤ 4000) (t : T) : GrownAt W0 g lb σ t := by
  induction t using T.ind with
  | _ t ih =>
    intro sl w hw ha hsz
    obtain ⟨a, c, rfl, _, _⟩ := ha.slice
    by_cases h0 : t.fn.size = 0
    · exact grown_var W0 g lb σ eg hof t a _ c w hw h0
    · exact grown_fn W0 g lb σ hσ t ih a c w hw ha hsz h0

/-- What fits answers of a term that would come. -/
def fitsW (t : T) : Int := if 60 < t.depth then 22 else if 4000 < t.size then 3 else 0

set_option maxHeartbeats 2000000 in
theorem fits_any (W0 : World) (g : Nat) (lb : Array Value) (σ : Int → T) (eg : ∀ args w, (callFunc g args).run Try.prog w = .ok (.enter g args) w) (hof : OfAt W0 g lb σ) (hσ : ∀ n, (σ n).size ≤ 4000) (t : T) (sl : Value) (w : World) (hw : Below W0.heap.size W0 w) (ha : ArgsAt w sl t.args) (hsz : t.size ≤ 4000) :
    Calls Try.prog 43 #[tval t sl, .func (.func g) #[] lb] w fun e W' => e = .returned (.int .i64 (fitsW (t.app σ))) ∧ Below w.heap.size w W' := by
  obtain ⟨a, c, rfl, _, _⟩ := ha.slice
  have hb1 := below_box w (tbox t (.slice a t.args.length c))
  have hg := grown_any W0 g lb σ eg hof hσ t _ (w.alloc (tbox t (.slice a t.args.length c))) (hw.trans (hb1.mono hw.size)) (ArgsAt.keep hb1 (Nat.le_refl _) ha) hsz
  obtain ⟨t0, t1, t2⟩ := tbox_cells w t (.slice a t.args.length c)
  obtain ⟨u, hu⟩ : ∃ u, t.app σ = u := ⟨_, rfl⟩
  rw [hu] at hg ⊢
  obtain ⟨D, hD⟩ : ∃ D, u.depth = D := ⟨_, rfl⟩
  obtain ⟨S, hS⟩ : ∃ S, u.size = S := ⟨_, rfl⟩
  unfold ext at hg
  rw [hD, hS] at hg
  by_cases h1 : 60 < D
  · have Hf : Hid (fitsW u = 22) := by show fitsW u = _; unfold fitsW; rw [hD, if_pos h1]
    clear hu ha hD hS hsz
    go_enter Try.func43, Try.ntmps43
    go_wp2_with (first | (go_at_call 65; refine hg.mono ?_; rintro e w3 ⟨rfl, hb3⟩))
    go_ret
    exact ⟨ret_i64 Hf.symm, hb1.trans ((hb3.mono (by simp)).trans ((below_box w3 _).mono (by have := hb3.size; simp at this; omega)))⟩
  · by_cases h2 : 4000 < S
    · have Hf : Hid (fitsW u = 3) := by show fitsW u = _; unfold fitsW; rw [hD, hS, if_neg h1, if_pos h2]
      clear hu ha hD hS hsz
      go_enter Try.func43, Try.ntmps43
      go_wp2_with (first | (go_at_call 65; refine hg.mono ?_; rintro e w3 ⟨rfl, hb3⟩))
      go_ret
      exact ⟨ret_i64 Hf.symm, hb1.trans ((hb3.mono (by simp)).trans ((below_box w3 _).mono (by have := hb3.size; simp at this; omega)))⟩
    · have Hf : Hid (fitsW u = 0) := by show fitsW u = _; unfold fitsW; rw [hD, hS, if_neg h1, if_neg h2]
      clear hu ha hD hS hsz
      go_enter Try.func43, Try.ntmps43
      go_wp2_with (first | (go_at_call 65; refine hg.mono ?_; rintro e w3 ⟨rfl, hb3⟩))
      go_ret
      exact ⟨ret_i64 Hf.symm, hb1.trans ((hb3.mono (by simp)).trans ((below_box w3 _).mono (by have := hb3.size; simp at this; omega)))⟩

end Go.Proofs.Ytblfbmdnkgebdaa
