/-
  subst.Same and the document's Same.
-/
import Derived.Test.YthinbkpjggihdaaSA
import Derived.Test.YthinbkpjggihdaaQF
namespace Go.Proofs.Ythinbkpjggihdaa
open Go.RowKit

open Classical in
noncomputable def bsames (l m : List Bd) : Bool := decide (l = m)
theorem bsames_iff {x y : List Bd} : bsames x y = true ↔ x = y := by simp [bsames]
theorem bsames_false {x y : List Bd} : bsames x y = false ↔ x ≠ y := by simp [bsames]

/-- Do both the same? -/
noncomputable def subSame (l m : List Bd) : Bool := isSub l && isSub m && bsames l m

theorem bd_take_eq {l m : List Bd} {k : Nat} (hl : l.length = m.length) (hk : k < l.length) (h : l.take k = m.take k) (e : l[k] = m[k]) : l.take (k + 1) = m.take (k + 1) := by
  rw [List.take_succ_eq_append_getElem hk, List.take_succ_eq_append_getElem (by omega), h, e]

abbrev bbox2 (w : World) (x : Bd) (sx : Value) (y : Bd) (sy : Value) : World := (w.alloc (bbox x sx)).alloc (bbox y sy)

theorem bbox2_cells (w : World) (x : Bd) (sx : Value) (y : Bd) (sy : Value) :
    ((bbox2 w x sx y sy).cell? ⟨w.heap.size, 0, none⟩ = some (.int .i64 x.1) ∧ (bbox2 w x sx y sy).cell? ⟨w.heap.size, 1, none⟩ = some (.int .i64 x.2.v) ∧ (bbox2 w x sx y sy).cell? ⟨w.heap.size, 2, none⟩ = some (.string x.2.fn) ∧ (bbox2 w x sx y sy).cell? ⟨w.heap.size, 3, none⟩ = some sx) ∧
    ((bbox2 w x sx y sy).cell? ⟨w.heap.size + 1, 0, none⟩ = some (.int .i64 y.1) ∧ (bbox2 w x sx y sy).cell? ⟨w.heap.size + 1, 1, none⟩ = some (.int .i64 y.2.v) ∧ (bbox2 w x sx y sy).cell? ⟨w.heap.size + 1, 2, none⟩ = some (.string y.2.fn) ∧ (bbox2 w x sx y sy).cell? ⟨w.heap.size + 1, 3, none⟩ = some sy) := by
  have h := bbox_cells (w.alloc (bbox x sx)) y sy
  rw [World.size_alloc] at h
  refine ⟨?_, h⟩
  obtain ⟨h0, h1, h2, h3⟩ := bbox_cells w x sx
  have hb := below_box (w.alloc (bbox x sx)) (bbox y sy)
  exact ⟨kc hb (by simp) h0, kc hb (by simp) h1, kc hb (by simp) h2, kc hb (by simp) h3⟩

set_option maxHeartbeats 1000000 in
/-- Are two binds the same? -/
theorem bsame_any (x y : Bd) (sx sy : Value) (w : World) (hx : ArgsAt w sx x.2.args) (hy : ArgsAt w sy y.2.args) :
    Calls Try.prog 47 #[bval x sx, bval y sy] w fun e w' => e = .returned (.bool (decide (x.1 = y.1) && same x.2 y.2)) ∧ Below w.heap.size w w' := by
  obtain ⟨a, c, rfl, _, _⟩ := hx.slice
  obtain ⟨b, d, rfl, _, _⟩ := hy.slice
  have hb0 := below_box2 w (bbox x (.slice a x.2.args.length c)) (bbox y (.slice b y.2.args.length d))
  obtain ⟨⟨t0, t1, t2, t3⟩, u0, u1, u2, u3⟩ := bbox2_cells w x (.slice a x.2.args.length c) y (.slice b y.2.args.length d)
  have hs := tsame_any x.2 y.2 _ _ (bbox2 w x (.slice a x.2.args.length c) y (.slice b y.2.args.length d)) (ArgsAt.keep hb0 (Nat.le_refl _) hx) (ArgsAt.keep hb0 (Nat.le_refl _) hy)
  by_cases h : x.1 = y.1
  · have hd : (x.1 == y.1) = true := decide_eq_true h
    have HR : Hid ((decide (x.1 = y.1) && same x.2 y.2) = same x.2 y.2) := by show _ = _; rw [decide_eq_true h]; rfl
    clear h hx hy
    go_enter Try.func47, Try.ntmps47
    go_wp2_with (first | (go_at_call 48; refine hs.mono ?_; rintro e w2 ⟨rfl, hb2⟩))
    go_ret
    exact ⟨ret_bool HR.symm, hb0.trans (hb2.mono (by simp; omega))⟩
  · have hd : (x.1 == y.1) = false := decide_eq_false h
    have HR : Hid ((decide (x.1 = y.1) && same x.2 y.2) = false) := by show _ = _; rw [decide_eq_false h]; rfl
    clear h hx hy
    go_enter Try.func47, Try.ntmps47
    go_wp2
    go_ret
    exact ⟨ret_bool HR.symm, hb0⟩

set_option maxHeartbeats 1000000 in
theorem beqf_len (l m : List Bd) (a b : Option Addr) (c d : Nat) (f : Value) (w : World) (h : l.length ≠ m.length) :
    Calls Try.prog 46 #[.slice a l.length c, .slice b m.length d, f] w fun e w' => e = .returned (.bool (bsames l m)) ∧ Below w.heap.size w w' := by
  have HS : Hid (bsames l m = false) := bsames_false.2 fun e => h (by rw [e])
  have h3 : ((l.length : Int) != (m.length : Int)) = true := by rw [bne_iff_ne]; omega
  clear h
  go_enter Try.func46, Try.ntmps46
  go_wp2
  go_ret
  exact ⟨ret_bool (by rw [HS]), Below.refl _ _⟩

set_option maxHeartbeats 4000000 in
theorem beqf_loop (l m : List Bd) (a b : Option Addr) (c d : Nat) (w : World) (ha : BindsAt w (.slice a l.length c) l) (hb : BindsAt w (.slice b m.length d) m) (hc : l.length ≤ 9223372036854775807) (h : l.length = m.length) :
    Calls Try.prog 46 #[.slice a l.length c, .slice b m.length d, .func (.func 47) #[] #[]] w fun e w' => e = .returned (.bool (bsames l m)) ∧ Below w.heap.size w w' := by
  have HE : Hid (l.length = m.length) := h
  have h3 : ((l.length : Int) != (m.length : Int)) = false := by rw [bne_eq_false_iff_eq]; omega
  clear h
  go_enter Try.func46, Try.ntmps46
  go_wp2
  go_loopw [17] (fun i wr => ∃ k : Nat, k ≤ l.length ∧ i = .int .i64 k ∧ Hid (l.take k = m.take k) ∧ Below w.heap.size w wr) (fun i _ => l.length - (intOf i).toNat)
  case atStart => exact ⟨0, Nat.zero_le _, rfl, rfl, Below.refl _ _⟩
  case round =>
    obtain ⟨k, hk, rfl, hall, hw⟩ := hrel
    by_cases hlt : k < l.length
    · have hlt' : k < m.length := HE ▸ hlt
      obtain ⟨ba, oa, s, rfl, hA0⟩ := ha.nth hlt
      obtain ⟨bb, ob, s', rfl, hB0⟩ := hb.nth hlt'
      have hA := hA0.keep hw
      have hB := hB0.keep hw
      obtain ⟨aa, cs, rfl, _, _⟩ := hA.sub.slice
      obtain ⟨aa', cs', rfl, _, _⟩ := hB.sub.slice
      have hbx : Below wr.heap.size wr (bbox2 wr l[k] (.slice aa l[k].2.args.length cs) m[k] (.slice aa' m[k].2.args.length cs')) := below_box2 wr _ _
      have ih' := (bsame_any l[k] m[k] _ _ _ (ArgsAt.keep hbx (Nat.le_refl _) hA.sub) (ArgsAt.keep hbx (Nat.le_refl _) hB.sub)).mono (R' := fun e w' => e = .returned (.bool (decide (l[k].1 = m[k].1) && same l[k].2 m[k].2)) ∧ Below w.heap.size w w') (fun e w' h => ⟨h.1, hw.trans ((hbx.trans (h.2.mono (by simp; omega))).mono hw.size)⟩)
      obtain ⟨a0, a1, a2, a3⟩ : wr.cell? ⟨ba, oa + k * 4, none⟩ = some (.int .i64 l[k].1) ∧ wr.cell? ⟨ba, oa + k * 4 + 1, none⟩ = some (.int .i64 l[k].2.v) ∧ wr.cell? ⟨ba, oa + k * 4 + 2, none⟩ = some (.string l[k].2.fn) ∧ wr.cell? ⟨ba, oa + k * 4 + 3, none⟩ = some (.slice aa l[k].2.args.length cs) := ⟨hA.c0, hA.c1, hA.c2, hA.c3⟩
      have hb1 := below_box wr (bbox l[k] (.slice aa l[k].2.args.length cs))
      have b0' := kc hb1 hB.lt hB.c0
      have b1' := kc hb1 hB.lt hB.c1
      have b2' := kc hb1 hB.lt hB.c2
      have b3' := kc hb1 hB.lt hB.c3
      clear hA0 hB0 hbx hA hB hb1
      cases hsh : (decide (l[k].1 = m[k].1) && same l[k].2 m[k].2)
      · rw [hsh] at ih'
        have Hf : Hid (bsames l m = false) := by
          refine bsames_false.2 fun e => ?_
          subst e
          have : same l[k].2 l[k].2 = true := same_iff.2 rfl
          rw [this] at hsh
          simp at hsh
        clear hsh
        go_wp2_with (go_at_call 47; refine ih'.mono ?_; rintro e w' ⟨rfl, hb'⟩)
        go_ret
        exact ⟨ret_bool (by rw [Hf]), hb'⟩
      · rw [hsh] at ih'
        have Hf : Hid (l.take (k + 1) = m.take (k + 1)) := bd_take_eq HE hlt hall (by
          have h2 := Bool.and_eq_true_iff.1 hsh
          exact Prod.ext (of_decide_eq_true h2.1) (same_iff.1 h2.2))
        clear hsh
        go_wp2_with (go_at_call 47; refine ih'.mono ?_; rintro e w' ⟨rfl, hb'⟩)
        go_roundw
        case rel => exact ⟨k + 1, by omega, by go_num, Hf, hb'⟩
        case measure => simp [intOf]; omega
    · have Hf : Hid (bsames l m = true) := by
        refine bsames_iff.2 ?_
        have hall' : l.take k = m.take k := hall
        have hl : l.length = m.length := HE
        rw [List.take_of_length_le (by omega), List.take_of_length_le (by omega)] at hall'
        exact hall'
      go_wp2
      go_ret
      exact ⟨ret_bool (by rw [Hf]), hw⟩

theorem beqf_any (l m : List Bd) (sl sm : Value) (w : World) (ha : BindsAt w sl l) (hb : BindsAt w sm m) :
    Calls Try.prog 46 #[sl, sm, .func (.func 47) #[] #[]] w fun e w' => e = .returned (.bool (bsames l m)) ∧ Below w.heap.size w w' := by
  obtain ⟨a, c, rfl⟩ := ha.slice
  obtain ⟨b, d, rfl⟩ := hb.slice
  by_cases hl : l.length = m.length
  · exact beqf_loop l m a b c d w ha hb ha.len hl
  · exact beqf_len l m a b c d _ w hl

set_option maxHeartbeats 2000000 in
/-- subst.Same. -/
theorem ssame_any (l m : List Bd) (sl sm : Value) (w : World) (ha : BindsAt w sl l) (hb : BindsAt w sm m) (hS : ∀ x ∈ l, Short x.2) (hS' : ∀ x ∈ m, Short x.2) :
    Calls Try.prog 23 #[sl, sm] w fun e w' => e = .returned (.bool (subSame l m)) ∧ Below w.heap.size w w' := by
  have h1 := sright_any l sl w ha hS
  have h2 : ∀ W, Below w.heap.size w W → Calls Try.prog 13 #[sm] W fun e w' => e = .returned (.int .i64 (subW m)) ∧ Below W.heap.size W w' := fun W hW => sright_any m sm W (hb.keep hW) hS'
  have h3 : ∀ W, Below w.heap.size w W → Calls Try.prog 46 #[sl, sm, .func (.func 47) #[] #[]] W fun e w' => e = .returned (.bool (bsames l m)) ∧ Below W.heap.size W w' := fun W hW => beqf_any l m sl sm W (ha.keep hW) (hb.keep hW)
  obtain ⟨a, c, rfl⟩ := ha.slice
  obtain ⟨b, d, rfl⟩ := hb.slice
  have HR : Hid (subSame l m = (isSub l && isSub m && bsames l m)) := rfl
  clear ha hb hS hS'
  cases e1 : isSub l
  · rw [subW_f e1] at h1
    have Hf : Hid (subSame l m = false) := by show _ = _; rw [HR.out, e1]; rfl
    clear e1 HR
    go_enter Try.func23, Try.ntmps23
    go_wp2_with (first | (go_at_call 13; refine h1.mono ?_; rintro e w2 ⟨rfl, hb2⟩))
    go_ret
    exact ⟨ret_bool Hf.symm, hb2⟩
  · rw [subW_t e1] at h1
    cases e2 : isSub m
    · rw [subW_f e2] at h2
      have Hf : Hid (subSame l m = false) := by show _ = _; rw [HR.out, e1, e2]; rfl
      clear e1 e2 HR
      go_enter Try.func23, Try.ntmps23
      go_wp2_with (first | (go_at_call 13; refine (h2 w2 hb2).mono ?_; rintro e w3 ⟨rfl, hb3⟩) | (go_at_call 13; refine h1.mono ?_; rintro e w2 ⟨rfl, hb2⟩))
      go_ret
      exact ⟨ret_bool Hf.symm, hb2.trans (hb3.mono hb2.size)⟩
    · rw [subW_t e2] at h2
      have Hf : Hid (subSame l m = bsames l m) := by show _ = _; rw [HR.out, e1, e2]; rfl
      clear e1 e2 HR
      go_enter Try.func23, Try.ntmps23
      go_wp2_with (first | (go_at_call 46; refine (h3 w3 (hb2.trans (hb3.mono hb2.size))).mono ?_; rintro e w4 ⟨rfl, hb4⟩) | (go_at_call 13; refine (h2 w2 hb2).mono ?_; rintro e w3 ⟨rfl, hb3⟩) | (go_at_call 13; refine h1.mono ?_; rintro e w2 ⟨rfl, hb2⟩))
      go_ret
      exact ⟨ret_bool Hf.symm, hb2.trans ((hb3.mono hb2.size).trans (hb4.mono (Nat.le_trans hb2.size hb3.size)))⟩

end Go.Proofs.Ythinbkpjggihdaa
