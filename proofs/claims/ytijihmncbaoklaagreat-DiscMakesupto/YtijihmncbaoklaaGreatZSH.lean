import Derived.Test.YtijihmncbaoklaaGreatZSF

/-
  The place of a variable's bind: a binary search.
-/
namespace Go.Proofs.YtijihmncbaoklaaGreat
open Go.RowKit

set_option maxHeartbeats 400000 in
theorem pcmp_any (x : Bd) (n : Int) (s : Value) (w : World) (hs : ∃ a m c, s = .slice a m c) :
    Calls Tryz.prog 113 #[bval x s, .int .i64 n] w fun e w' => e = .returned (.int .i64 (Lib.compareInt x.1 n)) ∧ w' = w.alloc (bdbox x s) := by
  obtain ⟨a, m, c, rfl⟩ := hs
  obtain ⟨t0, t1, t2, t3⟩ := bdbox_cells w x (.slice a m c)
  go_enter Tryz.func113, Tryz.ntmps113
  go_wp2_with (go_at_call 39; refine (cmpInt_any _ _ _).mono ?_; rintro e w' ⟨rfl, rfl⟩)
  go_ret
  exact ⟨rfl, rfl⟩

/-- Rising by the variables. -/
def Rising (l : List Bd) : Prop := ∀ i j (hj : j < l.length) (hij : i < j), l[i].1 < l[j].1

theorem IsSub.rising {l : List Bd} (h : IsSub l) : Rising l := by
  intro i j hj hij
  induction j with
  | zero => omega
  | succ j ih =>
    have hk := h.2 (j + 1) hj
    rw [prv_succ l j (by omega)] at hk
    unfold okb at hk
    simp only [Bool.and_eq_true, decide_eq_true_eq] at hk
    by_cases e : i = j
    · subst e; exact hk.1.1.1
    · have := ih (by omega) (by omega)
      omega

/-- Where the search stands: all ahead of i are less, none from j on is. -/
structure Srch (l : List Bd) (n : Int) (i j : Nat) : Prop where
  le : i ≤ j
  lt : j ≤ l.length
  lo : ∀ k (h : k < l.length), k < i → l[k].1 < n
  hi : ∀ k (h : k < l.length), j ≤ k → n ≤ l[k].1

/-- Whether there is a bind, at that place. -/
structure Found (l : List Bd) (n : Int) (p : Nat) (f : Bool) : Prop where
  yes : f = true → ∃ h : p < l.length, l[p].1 = n
  no : f = false → ∀ k (h : k < l.length), l[k].1 ≠ n

set_option maxRecDepth 100000 in
set_option maxHeartbeats 4000000 in
theorem search_any (l : List Bd) (n : Int) (v : Value) (w : World) (hl : BindsAt w v l) (hr : Rising l) (hlen : l.length ≤ 4000) :
    Calls Tryz.prog 112 #[v, .int .i64 n, .func (.func 113) #[] #[]] w fun e w' => (∃ (p : Nat) (f : Bool), e = .returned (.tuple #[.int .i64 p, .bool f]) ∧ Found l n p f) ∧ Below w.heap.size w w' := by
  obtain ⟨a, c, rfl⟩ := hl.slice
  have HL : Hid (BindsAt w (.slice a l.length c) l) := hl
  clear hl
  go_enter Tryz.func112, Tryz.ntmps112
  go_wp2
  go_loopw [9, 10] (fun vi vj wr => ∃ i j : Nat, vi = .int .i64 i ∧ vj = .int .i64 j ∧ Srch l n i j ∧ Below w.heap.size w wr) (fun vi vj _ => (intOf vj).toNat - (intOf vi).toNat)
  case atStart => exact ⟨0, l.length, rfl, rfl, ⟨Nat.zero_le _, Nat.le_refl _, fun k _ h => absurd h (by omega), fun k h h' => absurd h (by omega)⟩, Below.refl _ _⟩
  case round =>
    obtain ⟨i, j, rfl, rfl, hs, hb⟩ := hrel
    obtain ⟨hle, hjl, hlo, hhi⟩ := hs
    by_cases hij : i < j
    · have hm : (i + j) / 2 < l.length := by omega
      obtain ⟨b, o, s, rfl, hB0⟩ := HL.out.nth hm
      have hB := hB0.keep hb
      have hxv : Hid (∃ x, l[(i + j) / 2] = x) := ⟨_, rfl⟩
      obtain ⟨x, hx⟩ := hxv.out
      rw [hx] at hB
      obtain ⟨sa, sc, rfl, _, _⟩ := hB.sub.slice
      have hc := pcmp_any x n (.slice sa x.2.args.length sc) wr ⟨_, _, _, rfl⟩
      have HB : Hid (Below w.heap.size w (wr.alloc (bdbox x (.slice sa x.2.args.length sc)))) := hb.trans ((below_box wr _).mono hb.size)
      obtain ⟨g0, g1, g2, g3⟩ : wr.cell? ⟨b, o + ((i + j) / 2) * 4, none⟩ = some (.int .i64 x.1) ∧ wr.cell? ⟨b, o + ((i + j) / 2) * 4 + 1, none⟩ = some (.int .i64 x.2.v) ∧ wr.cell? ⟨b, o + ((i + j) / 2) * 4 + 2, none⟩ = some (.string x.2.fn) ∧ wr.cell? ⟨b, o + ((i + j) / 2) * 4 + 3, none⟩ = some (.slice sa x.2.args.length sc) := ⟨hB.c0, hB.c1, hB.c2, hB.c3⟩
      have HX : Hid (l[(i + j) / 2] = x) := hx
      have HS : Hid ((∀ k (h : k < l.length), k < i → l[k].1 < n) ∧ (∀ k (h : k < l.length), j ≤ k → n ≤ l[k].1)) := ⟨hlo, hhi⟩
      clear hB hB0 hb hx hxv hlo hhi
      by_cases hlt : x.1 < n
      · have e1 : Lib.compareInt x.1 n = -1 := by unfold Lib.compareInt; rw [if_pos hlt]
        rw [e1] at hc
        clear e1
        go_wp2_with (first | (go_at_call 113; refine hc.mono ?_; rintro e w2 ⟨rfl, rfl⟩))
        go_roundw
        case rel =>
          refine ⟨(i + j) / 2 + 1, j, by rw [show ((i : Int) + (j : Int)) / 2 + 1 = (((i + j) / 2 + 1 : Nat) : Int) by omega], rfl, ⟨by omega, hjl, fun k h hk => ?_, HS.out.2⟩, HB⟩
          by_cases e : k = (i + j) / 2
          · subst e; rw [HX.out]; exact hlt
          · have := hr k ((i + j) / 2) hm (by omega)
            rw [HX.out] at this
            omega
        case measure => simp [intOf]; omega
      · have e1 : 0 ≤ Lib.compareInt x.1 n := by unfold Lib.compareInt; rw [if_neg hlt]; split <;> omega
        obtain ⟨cv, hcv⟩ : ∃ cv, Lib.compareInt x.1 n = cv := ⟨_, rfl⟩
        rw [hcv] at hc e1
        clear hcv
        go_wp2_with (first | (go_at_call 113; refine hc.mono ?_; rintro e w2 ⟨rfl, rfl⟩))
        go_roundw
        case rel =>
          refine ⟨i, (i + j) / 2, rfl, by rw [show ((i : Int) + (j : Int)) / 2 = (((i + j) / 2 : Nat) : Int) by omega], ⟨by omega, by omega, HS.out.1, fun k h hk => ?_⟩, HB⟩
          by_cases e : k = (i + j) / 2
          · subst e; rw [HX.out]; omega
          · have := hr ((i + j) / 2) k h (by omega)
            rw [HX.out] at this
            omega
        case measure => simp [intOf]; omega
    · obtain rfl : j = i := by omega
      by_cases hin : j < l.length
      · obtain ⟨b, o, s, rfl, hB0⟩ := HL.out.nth hin
        have hB := hB0.keep hb
        obtain ⟨x, hx⟩ : ∃ x, l[j] = x := ⟨_, rfl⟩
        rw [hx] at hB
        obtain ⟨sa, sc, rfl, _, _⟩ := hB.sub.slice
        have hc := pcmp_any x n (.slice sa x.2.args.length sc) wr ⟨_, _, _, rfl⟩
        have HB : Hid (Below w.heap.size w (wr.alloc (bdbox x (.slice sa x.2.args.length sc)))) := hb.trans ((below_box wr _).mono hb.size)
        obtain ⟨g0, g1, g2, g3⟩ : wr.cell? ⟨b, o + j * 4, none⟩ = some (.int .i64 x.1) ∧ wr.cell? ⟨b, o + j * 4 + 1, none⟩ = some (.int .i64 x.2.v) ∧ wr.cell? ⟨b, o + j * 4 + 2, none⟩ = some (.string x.2.fn) ∧ wr.cell? ⟨b, o + j * 4 + 3, none⟩ = some (.slice sa x.2.args.length sc) := ⟨hB.c0, hB.c1, hB.c2, hB.c3⟩
        by_cases heq : x.1 = n
        · have HF : Hid (Found l n j true) := ⟨fun _ => ⟨hin, by rw [hx]; exact heq⟩, fun h => by cases h⟩
          have e1 : Lib.compareInt x.1 n = 0 := by unfold Lib.compareInt; rw [if_neg (by omega), if_neg (by omega)]
          rw [e1] at hc
          clear e1 heq hx hB hB0 hlo hhi hr
          go_wp2_with (first | (go_at_call 113; refine hc.mono ?_; rintro e w2 ⟨rfl, rfl⟩))
          go_ret2
          exact ⟨⟨j, true, rfl, HF⟩, HB⟩
        · have HF : Hid (Found l n j false) := ⟨fun h => (by cases h), fun _ k h => by
            have h1 := hhi j hin (Nat.le_refl _)
            rw [hx] at h1
            by_cases e : k < j
            · have := hlo k h e; omega
            · by_cases e' : k = j
              · subst e'; rw [hx]; exact heq
              · have := hr j k h (by omega)
                rw [hx] at this
                omega⟩
          have e1 : Lib.compareInt x.1 n ≠ 0 := by unfold Lib.compareInt; split <;> (try split) <;> omega
          obtain ⟨cv, hcv⟩ : ∃ cv, Lib.compareInt x.1 n = cv := ⟨_, rfl⟩
          rw [hcv] at hc e1
          have hd : (cv == 0) = false := decide_eq_false e1
          clear hcv heq hx hB hB0 hlo hhi hr
          go_wp2_with (first | (go_at_call 113; refine hc.mono ?_; rintro e w2 ⟨rfl, rfl⟩))
          go_ret2
          exact ⟨⟨j, false, rfl, HF⟩, HB⟩
      · have HF : Hid (Found l n j false) := ⟨fun h => (by cases h), fun _ k h => by have := hlo k h (by omega); omega⟩
        clear hlo hhi hr
        go_wp2
        go_ret2
        exact ⟨⟨j, false, rfl, HF⟩, hb⟩

set_option maxHeartbeats 1000000 in
theorem place_any (l : List Bd) (n : Int) (v : Value) (w : World) (hl : BindsAt w v l) (hr : Rising l) (hlen : l.length ≤ 4000) :
    Calls Tryz.prog 74 #[v, .int .i64 n] w fun e w' => (∃ (p : Nat) (f : Bool), e = .returned (.tuple #[.int .i64 p, .bool f]) ∧ Found l n p f) ∧ Below w.heap.size w w' := by
  have hs := search_any l n v w hl hr hlen
  obtain ⟨a, c, rfl⟩ := hl.slice
  go_enter Tryz.func74, Tryz.ntmps74
  go_wp2_with (first | (go_at_call 112; refine hs.mono ?_; rintro e w2 ⟨⟨p, f, rfl, hf⟩, hb⟩))
  go_ret2
  exact ⟨⟨p, f, rfl, hf⟩, hb⟩

end Go.Proofs.YtijihmncbaoklaaGreat

/-
  subst.itself, subst.image, subst.copies.
-/
namespace Go.Proofs.YtijihmncbaoklaaGreat
open Go.RowKit

/-- What stands for a variable. -/
def img (l : List Bd) (n : Int) : T := ((l.find? (fun b => decide (b.1 = n))).map (·.2)).getD (var n)

theorem img_yes {l : List Bd} {n : Int} {p : Nat} (hr : Rising l) (h : p < l.length) (e : l[p].1 = n) : img l n = l[p].2 := by
  unfold img
  cases hf : l.find? (fun b => decide (b.1 = n)) with
  | none =>
    have := List.find?_eq_none.1 hf l[p] (List.getElem_mem h)
    simp [e] at this
  | some b =>
    have h1 : b.1 = n := by simpa using List.find?_some hf
    obtain ⟨j, hj, rfl⟩ := List.mem_iff_getElem.1 (List.mem_of_find?_eq_some hf)
    have : j = p := by
      rcases Nat.lt_trichotomy j p with hh | hh | hh
      · have := hr j p h hh; omega
      · exact hh
      · have := hr p j hj hh; omega
    subst this
    rfl

theorem img_no {l : List Bd} {n : Int} (h : ∀ k (h : k < l.length), l[k].1 ≠ n) : img l n = var n := by
  unfold img
  rw [List.find?_eq_none.2]
  · rfl
  · intro b hb
    obtain ⟨j, hj, rfl⟩ := List.mem_iff_getElem.1 hb
    simpa using h j hj

theorem right_shape {t : T} (h : t.rightW = 0) : t.shape = true := by
  unfold T.rightW at h
  by_cases hs : t.shape = false
  · rw [if_pos hs] at h; cases h
  · simpa using hs

theorem IsSub.right {l : List Bd} (h : IsSub l) : ∀ x ∈ l, x.2.rightW = 0 := by
  intro x hx
  obtain ⟨j, hj, rfl⟩ := List.mem_iff_getElem.1 hx
  have := h.2 j hj
  unfold okb at this
  simp only [Bool.and_eq_true, decide_eq_true_eq] at this
  exact this.2

theorem img_mem (l : List Bd) (n : Int) : img l n = var n ∨ ∃ x ∈ l, img l n = x.2 := by
  unfold img
  cases hf : l.find? (fun b => decide (b.1 = n)) with
  | none => exact .inl rfl
  | some b => exact .inr ⟨b, List.mem_of_find?_eq_some hf, rfl⟩

/-- A right term, with each variable for itself, is the term. -/
theorem app_var (t : T) : t.shape = true → t.app var = t := by
  induction t using T.ind with
  | _ t ih =>
    intro hs
    rw [T.app_eq]
    rw [T.shape_eq] at hs
    by_cases h0 : t.fn.size = 0
    · rw [if_pos h0] at hs ⊢
      simp only [Bool.and_eq_true, decide_eq_true_eq] at hs
      have h1 : t.args = [] := List.eq_nil_of_length_eq_zero hs.2
      have h2 := ba_empty.1 h0
      rw [t.eta, h1, h2]
      rfl
    · rw [if_neg h0] at hs ⊢
      simp only [Bool.and_eq_true, decide_eq_true_eq] at hs
      have h1 : t.args.map (T.app var) = t.args := by
        conv => rhs; rw [← List.map_id t.args]
        exact List.map_congr_left fun a ha => ih a ha (List.all_eq_true.1 hs.2 a ha)
      rw [h1, ← hs.1.1.1]
      exact t.eta.symm

set_option maxHeartbeats 1000000 in
theorem itself_any (n : Int) (w : World) : Calls Tryz.prog 77 #[.int .i64 n] w fun e W' => e = .returned (tval (var n) (.slice none 0 0)) ∧ Below w.heap.size w W' := by
  have hb := below_box w (.cells #[.int .i64 0, .string ⟨#[]⟩, .slice none 0 0] 32)
  go_enter Tryz.func77, Tryz.ntmps77
  go_wp2
  refine bodyPost_ret (v := tval (var n) (.slice none 0 0)) (by simp [results, Tryz.results77, go_sem, *, var, T.v, T.fn]) rfl ⟨rfl, ?_⟩
  first | exact set3_below hb _ 0 _ _ _ (Nat.le_refl _) | exact below_box w _

theorem itself_stand (W0 : World) : StandAt W0 77 #[] var := fun n W _ => (itself_any n W).mono fun _ _ ⟨he, hb⟩ => ⟨_, he, ArgsFr.nil _ _, hb⟩

theorem place_yes (l : List Bd) (n : Int) (v : Value) (w : World) (hl : BindsAt w v l) (hr : Rising l) (hlen : l.length ≤ 4000) (h : ∃ k, ∃ h : k < l.length, l[k].1 = n) :
    Calls Tryz.prog 74 #[v, .int .i64 n] w fun e w' => ∃ p : Nat, e = .returned (.tuple #[.int .i64 p, .bool true]) ∧ (∃ h : p < l.length, l[p].1 = n) ∧ Below w.heap.size w w' := by
  refine (place_any l n v w hl hr hlen).mono ?_
  rintro e w' ⟨⟨p, f, rfl, hf⟩, hb⟩
  cases f
  · obtain ⟨k, hk, e⟩ := h
    exact absurd e (hf.no rfl k hk)
  · exact ⟨p, rfl, hf.yes rfl, hb⟩

theorem place_not (l : List Bd) (n : Int) (v : Value) (w : World) (hl : BindsAt w v l) (hr : Rising l) (hlen : l.length ≤ 4000) (h : ¬ ∃ k, ∃ h : k < l.length, l[k].1 = n) :
    Calls Tryz.prog 74 #[v, .int .i64 n] w fun e w' => ∃ p : Nat, e = .returned (.tuple #[.int .i64 p, .bool false]) ∧ Below w.heap.size w w' := by
  refine (place_any l n v w hl hr hlen).mono ?_
  rintro e w' ⟨⟨p, f, rfl, hf⟩, hb⟩
  cases f
  · exact ⟨p, rfl, hb⟩
  · obtain ⟨hp, e⟩ := hf.yes rfl
    exact absurd ⟨p, hp, e⟩ h

set_option maxRecDepth 100000 in
set_option maxHeartbeats 2000000 in
theorem image_any (l : List Bd) (n : Int) (v : Value) (w : World) (hl : BindsAt w v l) (hr : Rising l) (hlen : l.length ≤ 4000) :
    Calls Tryz.prog 76 #[v, .int .i64 n] w fun e w' => ∃ sl, e = .returned (tval (img l n) sl) ∧ ArgsAt w' sl (img l n).args ∧ Below w.heap.size w w' := by
  obtain ⟨a, c, rfl⟩ := hl.slice
  have hb0 := below_box w (.cells #[.int .i64 0, .string ⟨#[]⟩, .slice none 0 0] 32)
  have hz : (w.alloc (.cells #[.int .i64 0, .string ⟨#[]⟩, .slice none 0 0] 32)).heap[w.heap.size]? = some (.cells #[.int .i64 0, .string ⟨#[]⟩, .slice none 0 0] 32 (0, 0)) := (MapKept.heap_alloc w _).1
  by_cases hex : ∃ k, ∃ h : k < l.length, l[k].1 = n
  · have hp := place_yes l n (.slice a l.length c) _ (hl.keep hb0) hr hlen hex
    have HL : Hid (BindsAt w (.slice a l.length c) l ∧ Rising l) := ⟨hl, hr⟩
    clear hl hr hex
    go_enter Tryz.func76, Tryz.ntmps76
    go_wp2_with (first | (go_at_call 74; refine hp.mono ?_; rintro e w2 ⟨p, rfl, ⟨hpl, hpe⟩, hb2⟩; have hz2 := (hb2.block w.heap.size (by simp)).trans hz; obtain ⟨⟨z0, z1, z2⟩, y0, y1, y2⟩ := box_facts hz2; have hbw : Below w.heap.size w w2 := hb0.trans (hb2.mono (by simp)); obtain ⟨b, o, s, e', hB0⟩ := HL.out.1.nth hpl; cases e'; have hB := hB0.keep hbw; have HI : Hid (img l n = l[p].2 ∧ ArgsAt w s l[p].2.args ∧ Below w.heap.size w w2) := ⟨img_yes HL.out.2 hpl hpe, hB0.sub, hbw⟩; obtain ⟨x, hx⟩ : ∃ x, l[p] = x := ⟨_, rfl⟩; rw [hx] at HI hB; obtain ⟨g1, g2, g3⟩ : w2.cell? ⟨b, o + p * 4 + 1, none⟩ = some (.int .i64 x.2.v) ∧ w2.cell? ⟨b, o + p * 4 + 2, none⟩ = some (.string x.2.fn) ∧ w2.cell? ⟨b, o + p * 4 + 3, none⟩ = some s := ⟨hB.c1, hB.c2, hB.c3⟩; obtain ⟨sa, sc, hsl, _, _⟩ := hB.sub.slice; subst hsl; clear hB hB0 hb2 hz2 hbw hpe hx))
    refine bodyPost_ret (v := tval x.2 (.slice sa x.2.args.length sc)) (by simp [results, Tryz.results76, go_sem, *]) rfl ⟨_, by rw [HI.out.1], ?_, ?_⟩
    · rw [HI.out.1]
      exact ArgsAt.keep (set3_below HI.out.2.2 w.heap.size 0 _ _ _ (Nat.le_refl _)) (Nat.le_refl _) HI.out.2.1
    · exact set3_below HI.out.2.2 _ 0 _ _ _ (Nat.le_refl _)
  · have hp := place_not l n (.slice a l.length c) _ (hl.keep hb0) hr hlen hex
    have HI : Hid (img l n = var n) := img_no fun k h e => hex ⟨k, h, e⟩
    clear hl hr hex
    go_enter Tryz.func76, Tryz.ntmps76
    go_wp2_with (first
      | (go_at_call 77; refine (itself_any n _).mono ?_; rintro e w3 ⟨rfl, hb3⟩; have hz3 := (hb3.block w.heap.size (by have := hb2.size; simp at this; omega)).trans hz2; obtain ⟨⟨z0, z1, z2⟩, y0, y1, y2⟩ := box_facts hz3)
      | (go_at_call 74; refine hp.mono ?_; rintro e w2 ⟨p, rfl, hb2⟩; have hz2 := (hb2.block w.heap.size (by simp)).trans hz))
    have HB : Hid (Below w.heap.size w w3) := hb0.trans ((hb2.mono (by simp)).trans (hb3.mono (by have := hb2.size; simp at this; omega)))
    refine bodyPost_ret (v := tval (var n) (.slice none 0 0)) (by simp [results, Tryz.results76, go_sem, *, var, T.v, T.fn]) rfl ⟨_, by rw [HI.out], ?_, ?_⟩
    · rw [HI.out]; exact (ArgsFr.nil 0 _).args
    · exact set3_below HB.out _ 0 _ _ _ (Nat.le_refl _)

theorem var_fn (n : Int) : (var n).fn.size = 0 := rfl
theorem var_app (n : Int) (σ : Int → T) : (var n).app σ = σ n := by rw [T.app_eq, if_pos (var_fn n)]; rfl

theorem eg39 : ∀ args w, (callFunc 77 args).run Tryz.prog w = .ok (.enter 77 args) w := enters_of Tryz.func77 (by kernel_rfl) rfl
theorem eg59 : ∀ args w, (callFunc 75 args).run Tryz.prog w = .ok (.enter 75 args) w := enters_of Tryz.func75 (by kernel_rfl) rfl

/-- A copy of what stands for a variable. -/
theorem copy_any (l : List Bd) (hsub : IsSub l) (n : Int) (sl : Value) (w : World) (ha : ArgsAt w sl (img l n).args) :
    Calls Tryz.prog 48 #[tval (img l n) sl, .func (.func 77) #[] #[]] w fun e W' => ∃ sl', e = .returned (tval (img l n) sl') ∧ ArgsFr w.heap.size W' sl' (img l n).args ∧ Below w.heap.size w W' := by
  rcases img_mem l n with h | ⟨x, hx, h⟩
  · rw [h] at ha ⊢
    obtain ⟨a, c, rfl, _, _⟩ := ha.slice
    have := rep_var w 77 #[] var eg39 (itself_stand w) (var n) a (var n).args.length c w (Below.refl _ _) (var_fn n)
    rw [var_app] at this
    exact this
  · rw [h] at ha ⊢
    have hs := right_shape (hsub.right x hx)
    have := rep_any w 77 #[] var eg39 (itself_stand w) x.2 sl w (Below.refl _ _) ha hs
    rw [app_var _ hs] at this
    exact this

set_option maxRecDepth 100000 in
set_option maxHeartbeats 2000000 in
theorem copies1_any (l : List Bd) (hsub : IsSub l) (n : Int) (v : Value) (B : Nat) (w : World) (hl : BindsAt w v l) (hB : w.cell? ⟨B, 0, none⟩ = some v) :
    Calls Tryz.prog 75 #[.int .i64 n, .pointer (some ⟨B, 0, none⟩)] w fun e W' => ∃ sl, e = .returned (tval (img l n) sl) ∧ ArgsFr w.heap.size W' sl (img l n).args ∧ Below w.heap.size w W' := by
  obtain ⟨a, c, rfl⟩ := hl.slice
  have hb0 := below_box w (.cells #[.int .i64 0, .string ⟨#[]⟩, .slice none 0 0] 32)
  have hz : (w.alloc (.cells #[.int .i64 0, .string ⟨#[]⟩, .slice none 0 0] 32)).heap[w.heap.size]? = some (.cells #[.int .i64 0, .string ⟨#[]⟩, .slice none 0 0] 32 (0, 0)) := (MapKept.heap_alloc w _).1
  have hB1 := kc hb0 (World.block_lt_of_cell? w _ hB) hB
  have hp := image_any l n (.slice a l.length c) _ (hl.keep hb0) hsub.rising hsub.1
  have hcp : ∀ W sl, ArgsAt W sl (img l n).args → Calls Tryz.prog 48 #[tval (img l n) sl, .func (.func 77) #[] #[]] W fun e W' => ∃ sl', e = .returned (tval (img l n) sl') ∧ ArgsFr W.heap.size W' sl' (img l n).args ∧ Below W.heap.size W W' := fun W sl h => copy_any l hsub n sl W h
  obtain ⟨x, hx⟩ : ∃ x, img l n = x := ⟨_, rfl⟩
  rw [hx] at hp hcp ⊢
  clear hx hl hB
  go_enter Tryz.func75, Tryz.ntmps75
  go_wp2_with (first
    | (go_at_call 76; refine hp.mono ?_; rintro e w2 ⟨sl, rfl, ha2, hb2⟩; obtain ⟨sa, sc, rfl, _, _⟩ := ha2.slice; have hz2 := (hb2.block w.heap.size (by simp)).trans hz; have hc2 := hcp w2 _ ha2; clear ha2)
    | (go_at_call 48; refine hc2.mono ?_; rintro e w3 ⟨sl, rfl, hf3, hb3⟩; obtain ⟨pa, pc, rfl⟩ := hf3.slice; have hz3 := (hb3.block w.heap.size (by have := hb2.size; simp at this; omega)).trans hz2; obtain ⟨⟨z0, z1, z2⟩, y0, y1, y2⟩ := box_facts hz3; have HI : Hid (ArgsFr w2.heap.size w3 (.slice pa x.args.length pc) x.args ∧ Below w.heap.size w w3 ∧ w.heap.size + 1 ≤ w2.heap.size) := ⟨hf3, hb0.trans ((hb2.mono (by simp)).trans (hb3.mono (by have := hb2.size; simp at this; omega))), by have := hb2.size; simpa using this⟩; clear hf3 hb3 hz3))
  refine bodyPost_ret (v := tval x (.slice pa x.args.length pc)) (by simp [results, Tryz.results75, go_sem, *]) rfl ⟨_, rfl, ?_, ?_⟩
  · exact (HI.out.1.keep (W' := set3 w3 w.heap.size 0 _ _ _) (by simp) (fun k hk _ => set3_other _ _ _ _ _ _ k (by have := HI.out.2.2; omega))).low (by have := HI.out.2.2; omega)
  · exact set3_below HI.out.2.1 _ 0 _ _ _ (Nat.le_refl _)

theorem copies_stand (l : List Bd) (hsub : IsSub l) (v : Value) (B : Nat) (W0 : World) (hl : BindsAt W0 v l) (hB : W0.cell? ⟨B, 0, none⟩ = some v) : StandAt W0 75 #[.pointer (some ⟨B, 0, none⟩)] (img l) :=
  fun n W hW => copies1_any l hsub n v B W (hl.keep hW) (kc hW (World.block_lt_of_cell? W0 _ hB) hB)

set_option maxHeartbeats 1000000 in
theorem copies_any (a : Option Addr) (n c : Nat) (w : World) : Calls Tryz.prog 49 #[.slice a n c] w fun e W' => e = .returned (.func (.func 75) #[] #[.pointer (some ⟨w.heap.size, 0, none⟩)]) ∧ W' = w.alloc (.cells #[.slice a n c] 53) := by
  go_enter Tryz.func49, Tryz.ntmps49
  go_wp2
  go_ret
  exact ⟨rfl, rfl⟩

end Go.Proofs.YtijihmncbaoklaaGreat

/-
  subst.grown and subst.fits.
-/
namespace Go.Proofs.YtijihmncbaoklaaGreat
open Go.RowKit

/-- How great a term is. -/
abbrev ext (t : T) : Value := .agg #[.int .i64 t.size, .int .i64 t.depth]

/-- A function that tells how great what stands for a variable is. -/
def OfAt (W0 : World) (g : Nat) (lb : Array Value) (σ : Int → T) : Prop :=
  ∀ (n : Int) (W : World), Below W0.heap.size W0 W → Calls Tryz.prog g (#[.int .i64 n] ++ lb) W fun e W' => e = .returned (ext (σ n)) ∧ Below W.heap.size W W'

theorem mx_nonneg (f : T → Int) (l : List T) (k : Nat) : 0 ≤ mx f l k := by
  unfold mx
  suffices H : ∀ (xs : List Int) (m : Int), 0 ≤ m → 0 ≤ xs.foldl max m from H _ 0 (Int.le_refl _)
  intro xs
  induction xs with
  | nil => intro m h; exact h
  | cons a r ih => intro m h; exact ih _ (by omega)

theorem size_pos (t : T) : 1 ≤ t.size := by
  have := size_parts t []
  rw [t.parts_eq] at this
  simp only [List.length_cons] at this
  omega

theorem mx_le_sum (f g : T → Int) (l : List T) (h : ∀ a ∈ l, f a ≤ g a ∧ 0 ≤ g a) : ∀ k, mx f l k ≤ upto g l k := by
  intro k
  induction k with
  | zero => rw [mx_zero, upto_zero]; exact Int.le_refl _
  | succ k ih =>
    by_cases hk : k < l.length
    · rw [mx_succ f l k hk, upto_succ g l k hk]
      have := h l[k] (List.getElem_mem hk)
      have h0 := mx_nonneg f l k
      omega
    · rw [mx_all f l (k + 1) (by omega), upto_all g l (k + 1) (by omega), ← mx_all f l k (by omega), ← upto_all g l k (by omega)]
      exact ih

theorem depth_le_size (t : T) : t.depth ≤ t.size := by
  induction t using T.ind with
  | _ t ih =>
    rw [T.depth_eq, T.size_eq]
    have := mx_le_sum T.depth T.size t.args (fun a ha => ⟨ih a ha, by have := size_pos a; omega⟩) t.args.length
    rw [mx_all _ _ _ (Nat.le_refl _), upto_all _ _ _ (Nat.le_refl _)] at this
    omega

theorem sum_nonneg (f : T → Int) : ∀ l : List T, (∀ a ∈ l, 0 ≤ f a) → 0 ≤ (l.map f).sum
  | [], _ => by simp
  | a :: r, h => by
    have h1 := h a (by simp)
    have h2 := sum_nonneg f r (fun b hb => h b (by simp [hb]))
    rw [List.map_cons, List.sum_cons]
    omega

theorem upto_le (f : T → Int) (l : List T) (h : ∀ a ∈ l, 0 ≤ f a) (k : Nat) : 0 ≤ upto f l k ∧ upto f l k ≤ (l.map f).sum := by
  induction k with
  | zero =>
    rw [upto_zero]
    exact ⟨Int.le_refl _, sum_nonneg f l h⟩
  | succ k ih =>
    by_cases hk : k < l.length
    · rw [upto_succ f l k hk]
      have h0 := h l[k] (List.getElem_mem hk)
      refine ⟨by omega, ?_⟩
      have e : (l.map f).sum = upto f l k + f l[k] + ((l.drop (k + 1)).map f).sum := by
        have h3 : l = l.take k ++ l[k] :: l.drop (k + 1) := by rw [List.getElem_cons_drop, List.take_append_drop]
        conv => lhs; rw [h3]
        unfold upto
        rw [List.map_append, List.sum_append, List.map_cons, List.sum_cons]
        omega
      have hp := sum_nonneg f (l.drop (k + 1)) (fun a ha => h a (List.mem_of_mem_drop ha))
      omega
    · rw [upto_all f l (k + 1) (by omega)]
      have := ih.1
      rw [upto_all f l k (by omega)] at this
      exact ⟨this, Int.le_refl _⟩

theorem app_size (σ : Int → T) (hσ : ∀ n, (σ n).size ≤ 4000) (t : T) : (t.app σ).size ≤ 4000 * t.size := by
  induction t using T.ind with
  | _ t ih =>
    rw [T.app_eq]
    have h1 := size_pos t
    by_cases h0 : t.fn.size = 0
    · rw [if_pos h0]
      have := hσ t.v
      omega
    · rw [if_neg h0, T.size_eq, t.size_eq]
      have h2 : ∀ l : List T, (∀ a ∈ l, (a.app σ).size ≤ 4000 * a.size) → ((l.map (T.app σ)).map T.size).sum ≤ 4000 * (l.map T.size).sum := by
        intro l
        induction l with
        | nil => intro _; simp
        | cons a r ihl =>
          intro h
          have e1 := h a (by simp)
          have e2 := ihl (fun b hb => h b (by simp [hb]))
          simp only [List.map_cons, List.sum_cons]
          omega
      have h3 := h2 t.args ih
      have h4 : (T.mk 0 t.fn (t.args.map (T.app σ))).args = t.args.map (T.app σ) := rfl
      rw [h4]
      omega

end Go.Proofs.YtijihmncbaoklaaGreat
