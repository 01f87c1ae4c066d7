/-
  term.Same with slices.EqualFunc.
-/
import Derived.Test.YtijihmncbaoklaaGreatC
namespace Go.Proofs.YtijihmncbaoklaaGreat
open Go.RowKit

/-- The contract of term.Same at x. -/
def SameAt (x : T) : Prop := ∀ (y : T) (sx sy : Value) (w : World), ArgsAt w sx x.args → ArgsAt w sy y.args →
    Calls Tryz.prog 115 #[tval x sx, tval y sy] w fun e w' => e = .returned (.bool (same x y)) ∧ Below w.heap.size w w'

open Classical in
/-- Are both lists the same? -/
noncomputable def sames (l m : List T) : Bool := decide (l = m)
theorem sames_iff {x y : List T} : sames x y = true ↔ x = y := by simp [sames]
theorem sames_false {x y : List T} : sames x y = false ↔ x ≠ y := by simp [sames]

set_option maxHeartbeats 1000000 in
theorem eqf_len (l m : List T) (a b : Option Addr) (c d : Nat) (f : Value) (w : World) (h : l.length ≠ m.length) :
    Calls Tryz.prog 128 #[.slice a l.length c, .slice b m.length d, f] w fun e w' => e = .returned (.bool (sames l m)) ∧ Below w.heap.size w w' := by
  have HS : Hid (sames l m = false) := sames_false.2 fun e => h (by rw [e])
  have h3 : ((l.length : Int) != (m.length : Int)) = true := by rw [bne_iff_ne]; omega
  clear h
  go_enter Tryz.func128, Tryz.ntmps128
  go_wp2
  go_ret
  exact ⟨ret_bool (by rw [HS]), Below.refl _ _⟩

set_option maxHeartbeats 2000000 in
theorem eqf_loop (l m : List T) (ih : ∀ a ∈ l, SameAt a) (a b : Option Addr) (c d : Nat) (w : World) (ha : ArgsAt w (.slice a l.length c) l) (hb : ArgsAt w (.slice b m.length d) m) (hc : l.length ≤ 9223372036854775807) (h : l.length = m.length) :
    Calls Tryz.prog 128 #[.slice a l.length c, .slice b m.length d, .func (.func 115) #[] #[]] w fun e w' => e = .returned (.bool (sames l m)) ∧ Below w.heap.size w w' := by
  have HE : Hid (l.length = m.length) := h
  have h3 : ((l.length : Int) != (m.length : Int)) = false := by rw [bne_eq_false_iff_eq]; omega
  clear h
  go_enter Tryz.func128, Tryz.ntmps128
  go_wp2
  go_loopw [17] (fun i wr => ∃ k : Nat, k ≤ l.length ∧ i = .int .i64 k ∧ Hid (l.take k = m.take k) ∧ Below w.heap.size w wr) (fun i _ => l.length - (intOf i).toNat)
  case atStart => exact ⟨0, Nat.zero_le _, rfl, rfl, Below.refl _ _⟩
  case round =>
    obtain ⟨k, hk, rfl, hall, hw⟩ := hrel
    have haw := ArgsAt.keep hw (Nat.le_refl _) ha
    have hbw := ArgsAt.keep hw (Nat.le_refl _) hb
    by_cases hlt : k < l.length
    · have hlt' : k < m.length := HE ▸ hlt
      obtain ⟨ba, oa, s, rfl, hba, a0, a1, a2, hs⟩ := haw.nth hlt
      obtain ⟨bb, ob, s', rfl, hbb, b0, b1, b2, hs'⟩ := hbw.nth hlt'
      obtain ⟨aa, cs, rfl, _, _⟩ := hs.slice
      obtain ⟨aa', cs', rfl, _, _⟩ := hs'.slice
      have hbx : Below wr.heap.size wr (tbox2 wr l[k] (.slice aa l[k].args.length cs) m[k] (.slice aa' m[k].args.length cs')) := below_box2 wr _ _
      have ih' := (ih l[k] (List.getElem_mem hlt) m[k] _ _ _ (ArgsAt.keep hbx (Nat.le_refl _) hs) (ArgsAt.keep hbx (Nat.le_refl _) hs')).mono (R' := fun e w' => e = .returned (.bool (same l[k] m[k])) ∧ Below w.heap.size w w') (fun e w' h => ⟨h.1, hw.trans ((hbx.trans (h.2.mono (by simp; omega))).mono hw.size)⟩)
      have b0' := kc (below_box wr (tbox l[k] (.slice aa l[k].args.length cs))) hbb b0
      have b1' := kc (below_box wr (tbox l[k] (.slice aa l[k].args.length cs))) hbb b1
      have b2' := kc (below_box wr (tbox l[k] (.slice aa l[k].args.length cs))) hbb b2
      clear ih ha hb haw hbw hbx hs hs'
      cases hsh : same l[k] m[k]
      · rw [hsh] at ih'
        have Hf : Hid (sames l m = false) := by
          refine sames_false.2 fun e => same_false.1 hsh ?_
          subst e
          rfl
        clear hsh
        go_wp2_with (go_at_call 115; refine ih'.mono ?_; rintro e w' ⟨rfl, hb'⟩)
        go_ret
        exact ⟨ret_bool (by rw [Hf]), hb'⟩
      · rw [hsh] at ih'
        have Hf : Hid (l.take (k + 1) = m.take (k + 1)) := list_take_eq HE hlt hall (same_iff.1 hsh)
        clear hsh
        go_wp2_with (go_at_call 115; refine ih'.mono ?_; rintro e w' ⟨rfl, hb'⟩)
        go_roundw
        case rel => exact ⟨k + 1, by omega, by go_num, Hf, hb'⟩
        case measure => simp [intOf]; omega
    · have Hf : Hid (sames l m = true) := by
        refine sames_iff.2 ?_
        have hall' : l.take k = m.take k := hall
        have hl : l.length = m.length := HE
        rw [List.take_of_length_le (by omega), List.take_of_length_le (by omega)] at hall'
        exact hall'
      go_wp2
      go_ret
      exact ⟨ret_bool (by rw [Hf]), hw⟩

theorem eqf_any (l m : List T) (ih : ∀ a ∈ l, SameAt a) (sl sm : Value) (w : World) (ha : ArgsAt w sl l) (hb : ArgsAt w sm m) :
    Calls Tryz.prog 128 #[sl, sm, .func (.func 115) #[] #[]] w fun e w' => e = .returned (.bool (sames l m)) ∧ Below w.heap.size w w' := by
  obtain ⟨a, c, rfl, hc, hm⟩ := ha.slice
  obtain ⟨b, d, rfl, hd, hm'⟩ := hb.slice
  by_cases hl : l.length = m.length
  · exact eqf_loop l m ih a b c d w ha hb (by omega) hl
  · exact eqf_len l m a b c d _ w hl

theorem same_of {x y : T} (h1 : x.v = y.v) (h2 : x.fn = y.fn) : same x y = sames x.args y.args := by
  cases h : sames x.args y.args
  · rw [same_false]
    intro e
    rw [sames_false] at h
    exact h (by rw [e])
  · exact same_iff.2 (same_ext h1 h2 (sames_iff.1 h))

set_option maxHeartbeats 1000000 in
theorem tsame_no (x y : T) (a b : Option Addr) (n c m d : Nat) (w : World) (h : x.v ≠ y.v ∨ x.fn ≠ y.fn) :
    Calls Tryz.prog 115 #[tval x (.slice a n c), tval y (.slice b m d)] w fun e w' => e = .returned (.bool (same x y)) ∧ Below w.heap.size w w' := by
  have HS : Hid (same x y = false) := same_false.2 fun e => by rcases h with h | h <;> exact h (by rw [e])
  by_cases hv : x.v = y.v
  · have h1 : (x.v == y.v) = true := by simpa using hv
    have h2 : ¬ x.fn.toList = y.fn.toList := fun e => by
      rcases h with h | h
      · exact h hv
      · exact h (ba_toList_inj.1 e)
    clear h hv
    go_enter Tryz.func115, Tryz.ntmps115
    go_wp2
    go_ret
    exact ⟨ret_bool (by rw [HS]), below_box2 w _ _⟩
  · have h1 : (x.v == y.v) = false := by simpa using hv
    clear h hv
    go_enter Tryz.func115, Tryz.ntmps115
    go_wp2
    go_ret
    exact ⟨ret_bool (by rw [HS]), below_box2 w _ _⟩

set_option maxHeartbeats 1000000 in
theorem tsame_yes (x y : T) (ih : ∀ a ∈ x.args, SameAt a) (a b : Option Addr) (c d : Nat) (w : World) (ha : ArgsAt w (.slice a x.args.length c) x.args) (hb : ArgsAt w (.slice b y.args.length d) y.args) (hv : x.v = y.v) (hf : x.fn = y.fn) :
    Calls Tryz.prog 115 #[tval x (.slice a x.args.length c), tval y (.slice b y.args.length d)] w fun e w' => e = .returned (.bool (same x y)) ∧ Below w.heap.size w w' := by
  have HS : Hid (same x y = sames x.args y.args) := same_of hv hf
  have h1 : (x.v == y.v) = true := by simpa using hv
  have h2 : x.fn.toList = y.fn.toList := ba_toList_inj.2 hf
  clear hv hf
  have hbx : Below w.heap.size w (tbox2 w x (.slice a x.args.length c) y (.slice b y.args.length d)) := below_box2 w _ _
  have ih' := (eqf_any x.args y.args ih _ _ _ (ArgsAt.keep hbx (Nat.le_refl _) ha) (ArgsAt.keep hbx (Nat.le_refl _) hb)).mono (R' := fun e w' => e = .returned (.bool (sames x.args y.args)) ∧ Below w.heap.size w w') (fun e w' h => ⟨h.1, hbx.trans (h.2.mono (by simp; omega))⟩)
  clear ih ha hb hbx
  go_enter Tryz.func115, Tryz.ntmps115
  go_wp2_with (go_at_call 128; refine ih'.mono ?_; rintro e w' ⟨rfl, hb'⟩)
  go_ret
  exact ⟨ret_bool (by rw [HS]), hb'⟩

theorem tsame_any (x : T) : SameAt x := by
  induction x using T.ind with
  | _ x ih =>
    intro y sx sy w hx hy
    obtain ⟨a, c, rfl, hc, hm⟩ := hx.slice
    obtain ⟨b, d, rfl, hd, hm'⟩ := hy.slice
    by_cases h : x.v ≠ y.v ∨ x.fn ≠ y.fn
    · exact tsame_no x y a b _ c _ d w h
    · refine tsame_yes x y ih a b c d w hx hy ?_ ?_
      · exact Classical.not_not.1 fun e => h (.inl e)
      · exact Classical.not_not.1 fun e => h (.inr e)

end Go.Proofs.YtijihmncbaoklaaGreat
