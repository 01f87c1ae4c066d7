import Derived.Test.YtgnjgpplelakkaaGreatSG
import Derived.Test.YtgnjgpplelakkaaGreatLC
import Derived.Deep.RegionHeld3

/-
  subst.grown and subst.fits.
-/
namespace Go.Proofs.YtgnjgpplelakkaaGreat
open Go.RowKit

/-- How great a term is. -/
abbrev ext (t : T) : Value := .agg #[.int .i64 t.size, .int .i64 t.depth]

/-- A function that tells how great what stands for a variable is. -/
def OfAt (W0 : World) (g : Nat) (lb : Array Value) (σ : Int → T) : Prop :=
  ∀ (n : Int) (W : World), Below W0.heap.size W0 W → Calls Tryz.prog g (#[.int .i64 n] ++ lb) W fun e W' => e = .returned (ext (σ n)) ∧ Below W.heap.size W W'

theorem mx_nonneg (f : T → Int) (l : List T) (k : Nat) : 0 ≤ mx f l k := by
  unfold mx
  suffices H : ∀ (xs : List Int) (m : Int), 0 ≤ m → 0 ≤ xs.foldl max m from H _ 0 (Int.le_refl _)
  intro xs
  induction xs with
  | nil => intro m h; exact h
  | cons a r ih => intro m h; exact ih _ (by omega)

theorem mx_le_sum (f g : T → Int) (l : List T) (h : ∀ a ∈ l, f a ≤ g a ∧ 0 ≤ g a) : ∀ k, mx f l k ≤ upto g l k := by
  intro k
  induction k with
  | zero => rw [mx_zero, upto_zero]; exact Int.le_refl _
  | succ k ih =>
    by_cases hk : k < l.length
    · rw [mx_succ f l k hk, upto_succ g l k hk]
      have := h l[k] (List.getElem_mem hk)
      have h0 := mx_nonneg f l k
      omega
    · rw [mx_all f l (k + 1) (by omega), upto_all g l (k + 1) (by omega), ← mx_all f l k (by omega), ← upto_all g l k (by omega)]
      exact ih

theorem depth_le_size (t : T) : t.depth ≤ t.size := by
  induction t using T.ind with
  | _ t ih =>
    rw [T.depth_eq, T.size_eq]
    have := mx_le_sum T.depth T.size t.args (fun a ha => ⟨ih a ha, by have := size_pos a; omega⟩) t.args.length
    rw [mx_all _ _ _ (Nat.le_refl _), upto_all _ _ _ (Nat.le_refl _)] at this
    omega

theorem sum_nonneg (f : T → Int) : ∀ l : List T, (∀ a ∈ l, 0 ≤ f a) → 0 ≤ (l.map f).sum
  | [], _ => by simp
  | a :: r, h => by
    have h1 := h a (by simp)
    have h2 := sum_nonneg f r (fun b hb => h b (by simp [hb]))
    rw [List.map_cons, List.sum_cons]
    omega

theorem upto_le (f : T → Int) (l : List T) (h : ∀ a ∈ l, 0 ≤ f a) (k : Nat) : 0 ≤ upto f l k ∧ upto f l k ≤ (l.map f).sum := by
  induction k with
  | zero =>
    rw [upto_zero]
    exact ⟨Int.le_refl _, sum_nonneg f l h⟩
  | succ k ih =>
    by_cases hk : k < l.length
    · rw [upto_succ f l k hk]
      have h0 := h l[k] (List.getElem_mem hk)
      refine ⟨by omega, ?_⟩
      have e : (l.map f).sum = upto f l k + f l[k] + ((l.drop (k + 1)).map f).sum := by
        have h3 : l = l.take k ++ l[k] :: l.drop (k + 1) := by rw [List.getElem_cons_drop, List.take_append_drop]
        conv => lhs; rw [h3]
        unfold upto
        rw [List.map_append, List.sum_append, List.map_cons, List.sum_cons]
        omega
      have hp := sum_nonneg f (l.drop (k + 1)) (fun a ha => h a (List.mem_of_mem_drop ha))
      omega
    · rw [upto_all f l (k + 1) (by omega)]
      have := ih.1
      rw [upto_all f l k (by omega)] at this
      exact ⟨this, Int.le_refl _⟩

theorem app_size (σ : Int → T) (hσ : ∀ n, (σ n).size ≤ 4000) (t : T) : (t.app σ).size ≤ 4000 * t.size := by
  induction t using T.ind with
  | _ t ih =>
    rw [T.app_eq]
    have h1 := size_pos t
    by_cases h0 : t.fn.size = 0
    · rw [if_pos h0]
      have := hσ t.v
      omega
    · rw [if_neg h0, T.size_eq, t.size_eq]
      have h2 : ∀ l : List T, (∀ a ∈ l, (a.app σ).size ≤ 4000 * a.size) → ((l.map (T.app σ)).map T.size).sum ≤ 4000 * (l.map T.size).sum := by
        intro l
        induction l with
        | nil => intro _; simp
        | cons a r ihl =>
          intro h
          have e1 := h a (by simp)
          have e2 := ihl (fun b hb => h b (by simp [hb]))
          simp only [List.map_cons, List.sum_cons]
          omega
      have h3 := h2 t.args ih
      have h4 : (T.mk 0 t.fn (t.args.map (T.app σ))).args = t.args.map (T.app σ) := rfl
      rw [h4]
      omega

end Go.Proofs.YtgnjgpplelakkaaGreat

/-
  subst.grown and subst.fits.
-/
namespace Go.Proofs.YtgnjgpplelakkaaGreat
open Go.RowKit

/-- Two cells of a block. -/
theorem two_facts {X : World} {n : Nat} {u v : Value} (h : X.heap[n]? = some (.cells #[u, v] 95 (0, 0))) : (X.cell? ⟨n, 0, none⟩ = some u ∧ X.cell? ⟨n, 1, none⟩ = some v) ∧ (X.frozen? ⟨n, 0, none⟩ = false ∧ X.frozen? ⟨n, 1, none⟩ = false) := by
  refine ⟨⟨?_, ?_⟩, ⟨?_, ?_⟩⟩ <;> simp [World.cell?, World.frozen?, h]

theorem set2_block {X : World} {n : Nat} {u v : Value} (h : X.heap[n]? = some (.cells #[u, v] 95 (0, 0))) (u' v' : Value) : ((X.setCell ⟨n, 0, none⟩ u').setCell ⟨n, 1, none⟩ v').heap[n]? = some (.cells #[u', v'] 95 (0, 0)) := by
  have e1 := heap_setCell_same X n 0 _ 95 u' h
  have e2 := heap_setCell_same _ n 1 _ 95 v' e1
  simpa using e2

theorem set2_below {n : Nat} {w W : World} (h : Below n w W) (b : Nat) (u v : Value) (hb : n ≤ b) : Below n w ((W.setCell ⟨b, 0, none⟩ u).setCell ⟨b, 1, none⟩ v) :=
  (h.setCell (p := ⟨b, 0, none⟩) hb _).setCell (p := ⟨b, 1, none⟩) hb _

/-- What grown does at a term. -/
def GrownAt (W0 : World) (g : Nat) (lb : Array Value) (σ : Int → T) (t : T) : Prop :=
  ∀ (sl : Value) (w : World), Below W0.heap.size W0 w → ArgsAt w sl t.args → t.size ≤ 4000 →
    Calls Tryz.prog 67 #[tval t sl, .func (.func g) #[] lb] w fun e W' => e = .returned (ext (t.app σ)) ∧ Below w.heap.size w W'

set_option maxRecDepth 100000 in
set_option maxHeartbeats 2000000 in
theorem grown_var (W0 : World) (g : Nat) (lb : Array Value) (σ : Int → T) (eg : ∀ args w, (callFunc g args).run Tryz.prog w = .ok (.enter g args) w) (hof : OfAt W0 g lb σ) (t : T) (a : Option Addr) (m c : Nat) (w : World) (hw : Below W0.heap.size W0 w) (h0 : t.fn.size = 0) :
    Calls Tryz.prog 67 #[tval t (.slice a m c), .func (.func g) #[] lb] w fun e W' => e = .returned (ext (t.app σ)) ∧ Below w.heap.size w W' := by
  have hap : t.app σ = σ t.v := by rw [T.app_eq, if_pos h0]
  rw [hap]
  have hdd : t.fn.toList.isEmpty = true := by rw [ba_isEmpty]; exact decide_eq_true h0
  have hb2 : Below w.heap.size w ((w.alloc (tbox t (.slice a m c))).alloc (.cells #[.int .i64 0, .int .i64 0] 95)) := below_box2 w _ _
  have hz : ((w.alloc (tbox t (.slice a m c))).alloc (.cells #[.int .i64 0, .int .i64 0] 95)).heap[w.heap.size + 1]? = some (.cells #[.int .i64 0, .int .i64 0] 95 (0, 0)) := by
    have := (MapKept.heap_alloc (w.alloc (tbox t (.slice a m c))) (.cells #[.int .i64 0, .int .i64 0] 95)).1
    rw [World.size_alloc] at this
    exact this
  have hc := hof t.v _ (hw.trans (hb2.mono hw.size))
  obtain ⟨t0, t1, t2⟩ := tbox_cells w t (.slice a m c)
  have hbb := below_box (w.alloc (tbox t (.slice a m c))) (.cells #[.int .i64 0, .int .i64 0] 95)
  have t0' := kc hbb (by simp) t0
  have t1' := kc hbb (by simp) t1
  clear t0 t1 t2 hbb hap h0
  go_enter Tryz.func67, Tryz.ntmps67
  go_wp2_with (first | (go_at_fn g; refine hc.mono ?_; rintro e w3 ⟨rfl, hb3⟩; have hz3 := (hb3.block (w.heap.size + 1) (by simp)).trans hz; obtain ⟨⟨z0, z1⟩, y0, y1⟩ := two_facts hz3; have HF : Hid (Below w.heap.size w w3) := hb2.trans (hb3.mono (by simp; omega)); clear hb3 hz3))
  refine bodyPost_ret (v := ext (σ t.v)) (by simp [results, Tryz.results67, go_sem, *]) rfl ⟨rfl, ?_⟩
  exact set2_below HF.out _ _ _ (Nat.le_succ _)

/-- What stands in grown's loop. -/
structure GrI (w W1 : World) (s d : Int) (W : World) : Prop where
  box : W.heap[w.heap.size + 1 + 1]? = some (.cells #[.int .i64 s, .int .i64 d] 95 (0, 0))
  bel : Below (w.heap.size + 1 + 1) W1 W
  siz : w.heap.size + 3 ≤ W.heap.size

theorem GrI.al {w W1 : World} {s d : Int} {W W' : World} (h : GrI w W1 s d W) (hb : Below W.heap.size W W') : GrI w W1 s d W' :=
  ⟨(hb.block _ (by have := h.siz; omega)).trans h.box, h.bel.trans (hb.mono (by have := h.siz; omega)), Nat.le_trans h.siz hb.size⟩

set_option maxRecDepth 100000 in
set_option maxHeartbeats 4000000 in
theorem grown_fn (W0 : World) (g : Nat) (lb : Array Value) (σ : Int → T) (hσ : ∀ n, (σ n).size ≤ 4000) (t : T) (ih : ∀ a ∈ t.args, GrownAt W0 g lb σ a) (a : Option Addr) (c : Nat) (w : World) (hw : Below W0.heap.size W0 w) (ha : ArgsAt w (.slice a t.args.length c) t.args) (hsz : t.size ≤ 4000) (h0 : t.fn.size ≠ 0) :
    Calls Tryz.prog 67 #[tval t (.slice a t.args.length c), .func (.func g) #[] lb] w fun e W' => e = .returned (ext (t.app σ)) ∧ Below w.heap.size w W' := by
  have hap : t.app σ = .mk 0 t.fn (t.args.map (T.app σ)) := by rw [T.app_eq, if_neg h0]
  have hdd : t.fn.toList.isEmpty = false := by rw [ba_isEmpty]; exact decide_eq_false h0
  obtain ⟨fs, hfs⟩ : ∃ fs : T → Int, ∀ a, (a.app σ).size = fs a := ⟨fun a => (a.app σ).size, fun _ => rfl⟩
  obtain ⟨fd, hfd⟩ : ∃ fd : T → Int, ∀ a, (a.app σ).depth = fd a := ⟨fun a => (a.app σ).depth, fun _ => rfl⟩
  have hpos : ∀ a, 1 ≤ fs a := fun a => by rw [← hfs]; exact size_pos _
  have hfds : ∀ a, fd a ≤ fs a := fun a => by rw [← hfs, ← hfd]; exact depth_le_size _
  have hS : (t.app σ).size = 1 + (t.args.map fs).sum := by
    rw [hap, T.size_eq]
    show 1 + ((t.args.map (T.app σ)).map T.size).sum = _
    rw [List.map_map]
    congr 2
    exact List.map_congr_left fun a _ => hfs a
  have hD : (t.app σ).depth = (t.args.map fd).foldl max 0 + 1 := by
    rw [hap, T.depth_eq]
    show ((t.args.map (T.app σ)).map T.depth).foldl max 0 + 1 = _
    rw [List.map_map]
    congr 2
    exact List.map_congr_left fun a _ => hfd a
  have hbig : 1 + (t.args.map fs).sum ≤ 16000000 := by
    rw [← hS]
    have := app_size σ hσ t
    omega
  have hlen : t.args.length ≤ 4000 := by
    have h1 := t.size_eq
    have h2 : (t.args.length : Int) ≤ (t.args.map T.size).sum := by
      generalize t.args = l
      induction l with
      | nil => simp
      | cons x r ihl =>
        have := size_pos x
        rw [List.map_cons, List.sum_cons, List.length_cons]
        omega
    omega
  have hasz : ∀ x ∈ t.args, x.size ≤ 4000 := by
    intro x hx
    obtain ⟨j, hj, rfl⟩ := List.mem_iff_getElem.1 hx
    have h1 := t.size_eq
    have h2 := upto_le T.size t.args (fun a _ => by have := size_pos a; omega) j
    have h3 := upto_le T.size t.args (fun a _ => by have := size_pos a; omega) (j + 1)
    rw [upto_succ _ _ _ hj] at h3
    omega
  have HS : Hid ((∀ k, 0 ≤ upto fs t.args k ∧ upto fs t.args k ≤ (t.args.map fs).sum) ∧ (∀ k, mx fd t.args k ≤ upto fs t.args k) ∧ (t.app σ).size = 1 + (t.args.map fs).sum ∧ (t.app σ).depth = (t.args.map fd).foldl max 0 + 1 ∧ 1 + (t.args.map fs).sum ≤ 16000000 ∧ (∀ x ∈ t.args, x.size ≤ 4000)) :=
    ⟨fun k => upto_le fs t.args (fun a _ => by have := hpos a; omega) k, fun k => mx_le_sum fd fs t.args (fun a _ => ⟨hfds a, by have := hpos a; omega⟩) k, hS, hD, hbig, hasz⟩
  have HF : Hid ((∀ a, (a.app σ).size = fs a) ∧ ∀ a, (a.app σ).depth = fd a) := ⟨hfs, hfd⟩
  obtain ⟨t0, t1, t2⟩ := tbox_cells w t (.slice a t.args.length c)
  obtain ⟨W2, hW2⟩ : ∃ W2, (w.alloc (tbox t (.slice a t.args.length c))).alloc (.cells #[.int .i64 0, .int .i64 0] 95) = W2 := ⟨_, rfl⟩
  have hbb := below_box (w.alloc (tbox t (.slice a t.args.length c))) (.cells #[.int .i64 0, .int .i64 0] 95)
  have hb2 := below_box2 w (tbox t (.slice a t.args.length c)) (.cells #[.int .i64 0, .int .i64 0] 95)
  have t1' := kc hbb (by simp) t1
  have t2' := kc hbb (by simp) t2
  have hz := (MapKept.heap_alloc (w.alloc (tbox t (.slice a t.args.length c))) (.cells #[.int .i64 0, .int .i64 0] 95)).1
  rw [World.size_alloc] at hz
  have hb3 := below_box ((w.alloc (tbox t (.slice a t.args.length c))).alloc (.cells #[.int .i64 0, .int .i64 0] 95)) (.cells #[.int .i64 1, .int .i64 0] 95)
  have hz3 := (MapKept.heap_alloc ((w.alloc (tbox t (.slice a t.args.length c))).alloc (.cells #[.int .i64 0, .int .i64 0] 95)) (.cells #[.int .i64 1, .int .i64 0] 95)).1
  rw [World.size_alloc, World.size_alloc] at hz3
  obtain ⟨W1, hW1⟩ : ∃ W1, ((w.alloc (tbox t (.slice a t.args.length c))).alloc (.cells #[.int .i64 0, .int .i64 0] 95)).alloc (.cells #[.int .i64 1, .int .i64 0] 95) = W1 := ⟨_, rfl⟩
  have HZ : Hid (W1.heap[w.heap.size + 1]? = some (.cells #[.int .i64 0, .int .i64 0] 95 (0, 0)) ∧ Below w.heap.size w W1 ∧ GrI w W1 (1 + upto fs t.args 0) (mx fd t.args 0) W1) := by
    rw [← hW1]
    refine ⟨(hb3.block _ (by simp)).trans hz, hb2.trans (hb3.mono (by simp; omega)), ⟨?_, Below.refl _ _, by simp⟩⟩
    rw [upto_zero, mx_zero]
    exact hz3
  have HW1 : Hid (_ = W1) := hW1
  have HA : Hid (ArgsAt w (.slice a t.args.length c) t.args) := ha
  have e2 := kc hb3 (by simp; omega) t2'
  clear hW2 hW1 t0 t1 t2 hbb hb2 hz hb3 hz3 hfs hfd hpos hfds hS hD hbig hasz ha h0 hsz hap hσ
  go_enter Tryz.func67, Tryz.ntmps67
  go_wp2
  go_loopw [20] (fun vi wr => ∃ i : Nat, vi = .int .i64 i ∧ i ≤ t.args.length ∧ GrI w W1 (1 + upto fs t.args i) (mx fd t.args i) wr) (fun vi _ => t.args.length - (intOf vi).toNat)
  case atStart => exact ⟨0, rfl, Nat.zero_le _, by rw [HW1.out]; exact HZ.out.2.2⟩
  case round =>
    obtain ⟨i, rfl, hi, hI⟩ := hrel
    have hbw : Below w.heap.size w wr := HZ.out.2.1.trans (hI.bel.mono (by omega))
    have b1 := HS.out.1 i
    have b2 := HS.out.2.1 i
    have b3 := mx_nonneg fd t.args i
    have b4 := HS.out.2.2.2.2.1
    by_cases hlt : i < t.args.length
    · obtain ⟨ba, oa, sl, e', hba, a0, a1, a2, hs⟩ := (ArgsAt.keep hbw (Nat.le_refl _) HA.out).nth hlt
      cases e'
      have hup : 1 + upto fs t.args (i + 1) = 1 + upto fs t.args i + fs t.args[i] := by rw [upto_succ fs t.args i hlt]; omega
      have hmx := mx_succ fd t.args i hlt
      have b5 := HS.out.1 (i + 1)
      rw [upto_succ fs t.args i hlt] at b5
      have ihx := ih t.args[i] (List.getElem_mem hlt)
      have hxs := HS.out.2.2.2.2.2 _ (List.getElem_mem hlt)
      obtain ⟨x, hx⟩ : ∃ x, t.args[i] = x := ⟨_, rfl⟩
      rw [hx] at a0 a1 hs ihx hup hmx b5 hxs
      obtain ⟨sa, sc, rfl, _, _⟩ := hs.slice
      have hb1 := below_box wr (tbox x (.slice sa x.args.length sc))
      have hcall := ihx (.slice sa x.args.length sc) (wr.alloc (tbox x (.slice sa x.args.length sc))) (hw.trans ((hbw.trans (hb1.mono hbw.size)).mono hw.size)) (ArgsAt.keep hb1 (Nat.le_refl _) hs) hxs
      have hcall' : Calls Tryz.prog 67 #[tval x (.slice sa x.args.length sc), .func (.func g) #[] lb] (wr.alloc (tbox x (.slice sa x.args.length sc))) fun e W' => e = .returned (.agg #[.int .i64 (fs x), .int .i64 (fd x)]) ∧ Below (wr.alloc (tbox x (.slice sa x.args.length sc))).heap.size (wr.alloc (tbox x (.slice sa x.args.length sc))) W' := by
        have := hcall
        unfold ext at this
        rw [HF.out.1 x, HF.out.2 x] at this
        exact this
      obtain ⟨S, hSv⟩ : ∃ S, 1 + upto fs t.args i = S := ⟨_, rfl⟩
      obtain ⟨D, hDv⟩ : ∃ D, mx fd t.args i = D := ⟨_, rfl⟩
      rw [hSv] at hI hup
      rw [hDv] at hI hmx b2 b3
      have hI1 := hI.al hb1
      have HI1 : Hid (GrI w W1 S D (wr.alloc (tbox x (.slice sa x.args.length sc)))) := hI1
      have HU : Hid (1 + upto fs t.args (i + 1) = S + fs x ∧ mx fd t.args (i + 1) = max D (fd x)) := ⟨hup, hmx⟩
      obtain ⟨k0, k1, k2⟩ := tbox_cells wr x (.slice sa x.args.length sc)
      obtain ⟨p, hp⟩ : ∃ p, fs x = p := ⟨_, rfl⟩
      obtain ⟨q, hq⟩ : ∃ q, fd x = q := ⟨_, rfl⟩
      rw [hp, hq] at hcall' HU
      rw [hp] at b5
      have wa : IntKind.i64.wrap (S + p) = S + p := wrap_small _ (by omega) (by omega)
      clear hx ihx hs hb1 hI1 hI ih hcall hup hmx hp hq hxs
      go_wp2_with (first | (go_at_call 67; refine hcall'.mono ?_; rintro e w3 ⟨rfl, hb3⟩; have hI3 := HI1.out.al hb3; have hI4 := hI3.al (below_box w3 (.cells #[.int .i64 p, .int .i64 q] 95)); obtain ⟨⟨z0, z1⟩, y0, y1⟩ := two_facts hI4.box; have H4 : Hid (GrI w W1 S D (w3.alloc (.cells #[.int .i64 p, .int .i64 q] 95))) := hI4; clear hb3 hI3 hI4))
      all_goals go_roundw
      case rel => exact ⟨i + 1, by go_num, by omega, by rw [HU.out.1, HU.out.2]; first | exact ⟨set2_block H4.out.box _ _, set2_below H4.out.bel _ _ _ (Nat.le_refl _), by have := H4.out.siz; simp at this ⊢; omega⟩ | exact ⟨by rw [show max D q = D by omega]; exact set2_block H4.out.box _ _, set2_below H4.out.bel _ _ _ (Nat.le_refl _), by have := H4.out.siz; simp at this ⊢; omega⟩ | exact ⟨by rw [show max D q = q by omega]; exact set2_block H4.out.box _ _, set2_below H4.out.bel _ _ _ (Nat.le_refl _), by have := H4.out.siz; simp at this ⊢; omega⟩⟩
      case measure => simp [intOf]; omega
    · have hz3 := (hI.bel.block (w.heap.size + 1) (by omega)).trans HZ.out.1
      obtain ⟨⟨z0, z1⟩, y0, y1⟩ := two_facts hz3
      obtain ⟨⟨x0, x1⟩, v0, v1⟩ := two_facts hI.box
      have hS := HS.out.2.2.1
      have hD := HS.out.2.2.2.1
      have ei : t.args.length ≤ i := by omega
      rw [← upto_all fs t.args i ei] at hS
      rw [← mx_all fd t.args i ei] at hD
      obtain ⟨S, hSv⟩ : ∃ S, 1 + upto fs t.args i = S := ⟨_, rfl⟩
      obtain ⟨D, hDv⟩ : ∃ D, mx fd t.args i = D := ⟨_, rfl⟩
      rw [hSv] at x0 hS
      rw [hDv] at x1 hD b2 b3
      have wa : IntKind.i64.wrap (D + 1) = D + 1 := wrap_small _ (by omega) (by omega)
      have HR : Hid ((t.app σ).size = S ∧ (t.app σ).depth = D + 1 ∧ Below w.heap.size w wr) := ⟨hS, hD, hbw⟩
      clear hI hbw hz3 ih hS hD
      go_wp2
      refine bodyPost_ret (v := .agg #[.int .i64 S, .int .i64 (D + 1)]) (by simp [results, Tryz.results67, go_sem, *]) rfl ⟨by unfold ext; rw [HR.out.1, HR.out.2.1], ?_⟩
      exact set2_below (HR.out.2.2.setCell (p := ⟨w.heap.size + 1 + 1, 1, none⟩) (by simp only; omega) _) _ _ _ (Nat.le_succ _)

theorem grown_any (W0 : World) (g : Nat) (lb : Array Value) (σ : Int → T) (eg : ∀ args w, (callFunc g args).run Tryz.prog w = .ok (.enter g args) w) (hof : OfAt W0 g lb σ) (hσ : ∀ n, (σ n).size ≤ 4000) (t : T) : GrownAt W0 g lb σ t := by
  induction t using T.ind with
  | _ t ih =>
    intro sl w hw ha hsz
    obtain ⟨a, c, rfl, _, _⟩ := ha.slice
    by_cases h0 : t.fn.size = 0
    · exact grown_var W0 g lb σ eg hof t a _ c w hw h0
    · exact grown_fn W0 g lb σ hσ t ih a c w hw ha hsz h0

/-- What fits answers of a term that would come. -/
def fitsW (t : T) : Int := if 60 < t.depth then 22 else if 4000 < t.size then 3 else 0

set_option maxHeartbeats 2000000 in
theorem fits_any (W0 : World) (g : Nat) (lb : Array Value) (σ : Int → T) (eg : ∀ args w, (callFunc g args).run Tryz.prog w = .ok (.enter g args) w) (hof : OfAt W0 g lb σ) (hσ : ∀ n, (σ n).size ≤ 4000) (t : T) (sl : Value) (w : World) (hw : Below W0.heap.size W0 w) (ha : ArgsAt w sl t.args) (hsz : t.size ≤ 4000) :
    Calls Tryz.prog 44 #[tval t sl, .func (.func g) #[] lb] w fun e W' => e = .returned (.int .i64 (fitsW (t.app σ))) ∧ Below w.heap.size w W' := by
  obtain ⟨a, c, rfl, _, _⟩ := ha.slice
  have hb1 := below_box w (tbox t (.slice a t.args.length c))
  have hg := grown_any W0 g lb σ eg hof hσ t _ (w.alloc (tbox t (.slice a t.args.length c))) (hw.trans (hb1.mono hw.size)) (ArgsAt.keep hb1 (Nat.le_refl _) ha) hsz
  obtain ⟨t0, t1, t2⟩ := tbox_cells w t (.slice a t.args.length c)
  obtain ⟨u, hu⟩ : ∃ u, t.app σ = u := ⟨_, rfl⟩
  rw [hu] at hg ⊢
  obtain ⟨D, hD⟩ : ∃ D, u.depth = D := ⟨_, rfl⟩
  obtain ⟨S, hS⟩ : ∃ S, u.size = S := ⟨_, rfl⟩
  unfold ext at hg
  rw [hD, hS] at hg
  by_cases h1 : 60 < D
  · have Hf : Hid (fitsW u = 22) := by show fitsW u = _; unfold fitsW; rw [hD, if_pos h1]
    clear hu ha hD hS hsz
    go_enter Tryz.func44, Tryz.ntmps44
    go_wp2_with (first | (go_at_call 67; refine hg.mono ?_; rintro e w3 ⟨rfl, hb3⟩))
    go_ret
    exact ⟨ret_i64 Hf.symm, hb1.trans ((hb3.mono (by simp)).trans ((below_box w3 _).mono (by have := hb3.size; simp at this; omega)))⟩
  · by_cases h2 : 4000 < S
    · have Hf : Hid (fitsW u = 3) := by show fitsW u = _; unfold fitsW; rw [hD, hS, if_neg h1, if_pos h2]
      clear hu ha hD hS hsz
      go_enter Tryz.func44, Tryz.ntmps44
      go_wp2_with (first | (go_at_call 67; refine hg.mono ?_; rintro e w3 ⟨rfl, hb3⟩))
      go_ret
      exact ⟨ret_i64 Hf.symm, hb1.trans ((hb3.mono (by simp)).trans ((below_box w3 _).mono (by have := hb3.size; simp at this; omega)))⟩
    · have Hf : Hid (fitsW u = 0) := by show fitsW u = _; unfold fitsW; rw [hD, hS, if_neg h1, if_neg h2]
      clear hu ha hD hS hsz
      go_enter Tryz.func44, Tryz.ntmps44
      go_wp2_with (first | (go_at_call 67; refine hg.mono ?_; rintro e w3 ⟨rfl, hb3⟩))
      go_ret
      exact ⟨ret_i64 Hf.symm, hb1.trans ((hb3.mono (by simp)).trans ((below_box w3 _).mono (by have := hb3.size; simp at this; omega)))⟩

end Go.Proofs.YtgnjgpplelakkaaGreat

/-
  subst.extents.
-/
namespace Go.Proofs.YtgnjgpplelakkaaGreat
open Go.RowKit

theorem Tryz.info95 : (Tryz.prog.info? 95).map (fun i => (i.zero, i.size, i.bytes)) = some (some (.agg #[.int .i64 0, .int .i64 0]), 2, 16) := by kernel_rfl

/-- A term that is right, and so small that all can be counted. -/
structure Rt (t : T) : Prop where
  shape : t.shape = true
  size : t.size ≤ 4000
  depth : t.depth ≤ 60
  short : Short t

/-- A row of extents, the first i of which are told. -/
structure ExtI (g n i : Nat) (l : List Bd) (W : World) : Prop where
  blk : ∃ arr, W.heap[g]? = some (.cells arr 95 (0, 0)) ∧ arr.size = n * 2
  el : ∀ j (hj : j < l.length), j < i → W.cell? ⟨g, j * 2, none⟩ = some (.int .i64 l[j].2.size) ∧ W.cell? ⟨g, j * 2 + 1, none⟩ = some (.int .i64 l[j].2.depth)

theorem ExtI.keep {g n i : Nat} {l : List Bd} {W W' : World} (h : ExtI g n i l W) (hb : Below W.heap.size W W') : ExtI g n i l W' := by
  obtain ⟨arr, h1, h2⟩ := h.blk
  have hlt : g < W.heap.size := (Array.getElem?_eq_some_iff.1 h1).1
  exact ⟨⟨arr, (hb.block g hlt).trans h1, h2⟩, fun j hj hi => ⟨kc hb hlt (h.el j hj hi).1, kc hb hlt (h.el j hj hi).2⟩⟩

theorem ExtI.facts {g n i : Nat} {l : List Bd} {W : World} (h : ExtI g n i l W) (hi : i < n) : g < W.heap.size ∧ (∃ u v, W.cell? ⟨g, i * 2, none⟩ = some u ∧ W.cell? ⟨g, i * 2 + 1, none⟩ = some v) ∧ W.frozen? ⟨g, i * 2, none⟩ = false ∧ W.frozen? ⟨g, i * 2 + 1, none⟩ = false := by
  obtain ⟨arr, h1, h2⟩ := h.blk
  refine ⟨(Array.getElem?_eq_some_iff.1 h1).1, ⟨arr[i * 2]'(by omega), arr[i * 2 + 1]'(by omega), ?_, ?_⟩, ?_, ?_⟩
  · rw [cell_of_row _ _ _ _ 95 (0, 0) h1]; exact Array.getElem?_eq_getElem _
  · rw [cell_of_row _ _ _ _ 95 (0, 0) h1]; exact Array.getElem?_eq_getElem _
  · simp [World.frozen?, h1]
  · simp [World.frozen?, h1]

theorem ExtI.step {g n i : Nat} {l : List Bd} {W : World} (h : ExtI g n i l W) (hi : i < n) (hl : i < l.length) : ExtI g n (i + 1) l ((W.setCell ⟨g, i * 2, none⟩ (.int .i64 l[i].2.size)).setCell ⟨g, i * 2 + 1, none⟩ (.int .i64 l[i].2.depth)) := by
  obtain ⟨arr, h1, h2⟩ := h.blk
  obtain ⟨_, ⟨u, v, c0, c1⟩, _⟩ := h.facts hi
  refine ⟨?_, fun j hj hji => ?_⟩
  · have e1 := heap_setCell_same W g (i * 2) arr 95 (.int .i64 l[i].2.size) h1
    have e2 := heap_setCell_same _ g (i * 2 + 1) _ 95 (.int .i64 l[i].2.depth) e1
    exact ⟨_, e2, by simp [h2]⟩
  · by_cases e : j = i
    · subst e
      refine ⟨?_, ?_⟩
      · rw [World.cell?_setCell_other _ _ _ _ (by simp)]
        exact World.cell?_setCell_same _ _ _ c0
      · exact World.cell?_setCell_same _ _ _ ((World.cell?_setCell_other _ _ _ _ (by simp)).trans c1)
    · obtain ⟨d0, d1⟩ := h.el j hj (by omega)
      refine ⟨?_, ?_⟩ <;> rw [World.cell?_setCell_other _ _ _ _ (by intro e; injection e with _ e2; omega), World.cell?_setCell_other _ _ _ _ (by intro e; injection e with _ e2; omega)] <;> assumption

/-- What extents leaves: the binds' slice in one box, the row's in another. -/
structure ExtAt (W : World) (l : List Bd) (v : Value) (B1 B2 g : Nat) : Prop where
  binds : BindsAt W v l
  c1 : W.cell? ⟨B1, 0, none⟩ = some v
  c2 : W.cell? ⟨B2, 0, none⟩ = some (.slice (some ⟨g, 0, none⟩) l.length l.length)
  row : ExtI g l.length l.length l W

theorem ExtAt.keep {W W' : World} {l : List Bd} {v : Value} {B1 B2 g : Nat} (h : ExtAt W l v B1 B2 g) (hb : Below W.heap.size W W') : ExtAt W' l v B1 B2 g :=
  ⟨h.binds.keep hb, kc hb (World.block_lt_of_cell? W _ h.c1) h.c1, kc hb (World.block_lt_of_cell? W _ h.c2) h.c2, h.row.keep hb⟩

theorem var_size (n : Int) : (var n).size = 1 ∧ (var n).depth = 1 := by
  constructor
  · rw [T.size_eq]; simp [var, T.args]
  · rw [T.depth_eq]; simp [var, T.args]

set_option maxRecDepth 100000 in
set_option maxHeartbeats 2000000 in
theorem extents1_any (l : List Bd) (hsub : IsSub l) (n : Int) (v : Value) (B1 B2 g : Nat) (w : World) (h : ExtAt w l v B1 B2 g) :
    Calls Tryz.prog 69 #[.int .i64 n, .pointer (some ⟨B1, 0, none⟩), .pointer (some ⟨B2, 0, none⟩)] w fun e W' => e = .returned (ext (img l n)) ∧ Below w.heap.size w W' := by
  obtain ⟨a, c, rfl⟩ := h.binds.slice
  have hb0 := below_box w (.cells #[.int .i64 0, .int .i64 0] 95)
  have hz : (w.alloc (.cells #[.int .i64 0, .int .i64 0] 95)).heap[w.heap.size]? = some (.cells #[.int .i64 0, .int .i64 0] 95 (0, 0)) := (MapKept.heap_alloc w _).1
  have h1 := h.keep hb0
  have q1 := h1.c1
  by_cases hex : ∃ k, ∃ h : k < l.length, l[k].1 = n
  · have hp := place_yes l n (.slice a l.length c) _ h1.binds hsub.rising hsub.1 hex
    have HL : Hid (ExtAt (w.alloc (.cells #[.int .i64 0, .int .i64 0] 95)) l (.slice a l.length c) B1 B2 g ∧ Rising l) := ⟨h1, hsub.rising⟩
    clear h h1 hsub hex
    go_enter Tryz.func69, Tryz.ntmps69
    go_wp2_with (first | (go_at_call 70; refine hp.mono ?_; rintro e w2 ⟨p, rfl, ⟨hpl, hpe⟩, hb2⟩; have hz2 := (hb2.block w.heap.size (by simp)).trans hz; obtain ⟨⟨z0, z1⟩, y0, y1⟩ := two_facts hz2; have hE := HL.out.1.keep hb2; have q2 := hE.c2; obtain ⟨r0, r1⟩ := hE.row.el p hpl hpl; have HI : Hid (img l n = l[p].2 ∧ Below w.heap.size w w2) := ⟨img_yes HL.out.2 hpl hpe, hb0.trans (hb2.mono (by simp))⟩; obtain ⟨x, hx⟩ : ∃ x, l[p] = x := ⟨_, rfl⟩; rw [hx] at HI r0 r1; clear hE hz2 hb2 hpe hx))
    refine bodyPost_ret (v := ext x.2) (by simp [results, Tryz.results69, go_sem, *]) rfl ⟨by rw [HI.out.1], ?_⟩
    exact set2_below HI.out.2 _ _ _ (Nat.le_refl _)
  · have hp := place_not l n (.slice a l.length c) _ h1.binds hsub.rising hsub.1 hex
    have HI : Hid (img l n = var n) := img_no fun k h e => hex ⟨k, h, e⟩
    clear h h1 hsub hex
    go_enter Tryz.func69, Tryz.ntmps69
    go_wp2_with (first | (go_at_call 70; refine hp.mono ?_; rintro e w2 ⟨p, rfl, hb2⟩; have hz2 := (hb2.block w.heap.size (by simp)).trans hz; obtain ⟨⟨z0, z1⟩, y0, y1⟩ := two_facts hz2; have HB : Hid (Below w.heap.size w w2) := hb0.trans (hb2.mono (by simp)); clear hz2 hb2))
    refine bodyPost_ret (v := .agg #[.int .i64 1, .int .i64 1]) (by simp [results, Tryz.results69, go_sem, *]) rfl ⟨by rw [HI.out]; unfold ext; rw [(var_size n).1, (var_size n).2], ?_⟩
    exact set2_below HB.out _ _ _ (Nat.le_refl _)

theorem eg57 : ∀ args w, (callFunc 69 args).run Tryz.prog w = .ok (.enter 69 args) w := enters_of Tryz.func69 (by kernel_rfl) rfl

theorem extents_of (l : List Bd) (hsub : IsSub l) (v : Value) (B1 B2 g : Nat) (W0 : World) (h : ExtAt W0 l v B1 B2 g) : OfAt W0 69 #[.pointer (some ⟨B1, 0, none⟩), .pointer (some ⟨B2, 0, none⟩)] (img l) :=
  fun n W hW => extents1_any l hsub n v B1 B2 g W (h.keep hW)

theorem img_size (l : List Bd) (h : ∀ x ∈ l, Rt x.2) (n : Int) : (img l n).size ≤ 4000 := by
  rcases img_mem l n with e | ⟨x, hx, e⟩
  · rw [e, (var_size n).1]; omega
  · rw [e]; exact (h x hx).size

end Go.Proofs.YtgnjgpplelakkaaGreat
