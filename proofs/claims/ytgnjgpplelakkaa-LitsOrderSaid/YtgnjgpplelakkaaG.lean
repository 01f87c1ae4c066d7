/-
  The document's Cmp.
-/
import Derived.Test.YtgnjgpplelakkaaF
namespace Go.Proofs.Ytgnjgpplelakkaa
open Go.RowKit

set_option maxHeartbeats 1000000 in
theorem rcmp_var (x y : T) (a b : Option Addr) (n c m d : Nat) (w : World) (h1 : x.fn.size = 0) (h2 : y.fn.size = 0) :
    Calls Try.prog 55 #[tval x (.slice a n c), tval y (.slice b m d)] w fun e w' => e = .returned (.int .i64 (T.rcmp x y)) ∧ Below w.heap.size w w' := by
  have HS : Hid (T.rcmp x y = cI x.v y.v) := by show T.rcmp x y = _; rw [x.rcmp_eq, if_pos h1, if_pos h2]
  have g1 : x.fn.toList.isEmpty = true := by rw [ba_isEmpty, h1]; rfl
  have g2 : y.fn.toList.isEmpty = true := by rw [ba_isEmpty, h2]; rfl
  clear h1 h2
  go_enter Try.func55, Try.ntmps55
  go_wp2_with (go_at_call 83; refine (sign_any _ _ _).mono ?_; rintro e w' ⟨rfl, rfl⟩)
  go_ret
  exact ⟨ret_i64 HS.symm, below_box2 w _ _⟩

set_option maxHeartbeats 1000000 in
theorem rcmp_lo (x y : T) (a b : Option Addr) (n c m d : Nat) (w : World) (h1 : x.fn.size = 0) (h2 : y.fn.size ≠ 0) :
    Calls Try.prog 55 #[tval x (.slice a n c), tval y (.slice b m d)] w fun e w' => e = .returned (.int .i64 (T.rcmp x y)) ∧ Below w.heap.size w w' := by
  have HS : Hid (T.rcmp x y = -1) := by show T.rcmp x y = _; rw [x.rcmp_eq, if_pos h1, if_neg h2]
  have g1 : x.fn.toList.isEmpty = true := by rw [ba_isEmpty, h1]; rfl
  have g2 : y.fn.toList.isEmpty = false := by rw [ba_isEmpty]; exact decide_eq_false h2
  clear h1 h2
  go_enter Try.func55, Try.ntmps55
  go_wp2
  go_ret
  exact ⟨ret_i64 HS.symm, below_box2 w _ _⟩

set_option maxHeartbeats 1000000 in
theorem rcmp_hi (x y : T) (a b : Option Addr) (n c m d : Nat) (w : World) (h1 : x.fn.size ≠ 0) (h2 : y.fn.size = 0) :
    Calls Try.prog 55 #[tval x (.slice a n c), tval y (.slice b m d)] w fun e w' => e = .returned (.int .i64 (T.rcmp x y)) ∧ Below w.heap.size w w' := by
  have HS : Hid (T.rcmp x y = 1) := by show T.rcmp x y = _; rw [x.rcmp_eq, if_neg h1, if_pos h2]
  have g1 : x.fn.toList.isEmpty = false := by rw [ba_isEmpty]; exact decide_eq_false h1
  have g2 : y.fn.toList.isEmpty = true := by rw [ba_isEmpty, h2]; rfl
  clear h1 h2
  go_enter Try.func55, Try.ntmps55
  go_wp2
  go_ret
  exact ⟨ret_i64 HS.symm, below_box2 w _ _⟩

theorem bl_eq : ∀ l m : List UInt8, Op.bytesLess l m = decide (Lib.compareBytes l m = -1)
  | [], [] => by simp [Op.bytesLess, Lib.compareBytes]
  | [], _ :: _ => by simp [Op.bytesLess, Lib.compareBytes]
  | _ :: _, [] => by simp [Op.bytesLess, Lib.compareBytes]
  | a :: r, b :: s => by
    have ih := bl_eq r s
    unfold Op.bytesLess Lib.compareBytes
    rw [ih]
    by_cases h1 : a < b
    · simp [h1]
    · by_cases h2 : b < a
      · have hne : a ≠ b := fun e => by subst e; exact UInt8.lt_irrefl _ h2
        simp [h1, h2, hne]
      · have hab : a = b := by
          rw [UInt8.lt_iff_toNat_lt] at h1 h2
          exact UInt8.toNat_inj.1 (by omega)
        simp [hab]
theorem bl_cB (x y : ByteArray) : Op.bytesLess x.toList y.toList = decide (cB x y = -1) := by
  rw [ByteArray.toList_eq, ByteArray.toList_eq, bl_eq]

set_option maxHeartbeats 1000000 in
theorem rcmp_fns (x y : T) (a b : Option Addr) (n c m d : Nat) (w : World) (h1 : x.fn.size ≠ 0) (h2 : y.fn.size ≠ 0) (hc : cB x.fn y.fn ≠ 0) :
    Calls Try.prog 55 #[tval x (.slice a n c), tval y (.slice b m d)] w fun e w' => e = .returned (.int .i64 (T.rcmp x y)) ∧ Below w.heap.size w w' := by
  have HS : Hid (T.rcmp x y = cB x.fn y.fn) := by show T.rcmp x y = _; rw [x.rcmp_eq, if_neg h1, if_neg h2]; exact if_neg hc
  have g1 : x.fn.toList.isEmpty = false := by rw [ba_isEmpty]; exact decide_eq_false h1
  have g2 : y.fn.toList.isEmpty = false := by rw [ba_isEmpty]; exact decide_eq_false h2
  have hne : ¬ x.fn.toList = y.fn.toList := fun e => hc ((cB_ord.zero _ _ trivial).2 (ba_toList_inj.1 e))
  have hbl := bl_cB x.fn y.fn
  rcases cB_ord.rng x.fn y.fn trivial with h | h | h
  · rw [h] at hbl
    have HS' : Hid (T.rcmp x y = -1) := HS.trans h
    clear h1 h2 HS h hc
    go_enter Try.func55, Try.ntmps55
    go_wp2
    go_ret
    exact ⟨ret_i64 HS'.symm, below_box2 w _ _⟩
  · exact absurd h hc
  · rw [h] at hbl
    have HS' : Hid (T.rcmp x y = 1) := HS.trans h
    have hbl' : Op.bytesLess x.fn.toList y.fn.toList = false := by rw [hbl]; rfl
    have hne' : (x.fn.toList == y.fn.toList) = false := by rw [beq_eq_false_iff_ne]; exact hne
    clear h1 h2 HS h hc hbl hne
    go_enter Try.func55, Try.ntmps55
    go_wp2
    go_ret
    exact ⟨ret_i64 HS'.symm, below_box2 w _ _⟩

set_option maxHeartbeats 1000000 in
theorem rcmp_len (x y : T) (a b : Option Addr) (c d : Nat) (w : World) (h1 : x.fn.size ≠ 0) (h2 : y.fn.size ≠ 0) (hc : cB x.fn y.fn = 0) (hl : x.args.length ≠ y.args.length) :
    Calls Try.prog 55 #[tval x (.slice a x.args.length c), tval y (.slice b y.args.length d)] w fun e w' => e = .returned (.int .i64 (T.rcmp x y)) ∧ Below w.heap.size w w' := by
  have HS : Hid (T.rcmp x y = cI x.args.length y.args.length) := by
    show T.rcmp x y = _
    rw [x.rcmp_eq, if_neg h1, if_neg h2, hc]
    exact (if_pos rfl).trans (if_neg fun h => hl (by have := (cI_ord.zero _ _ trivial).1 h; omega))
  have g1 : x.fn.toList.isEmpty = false := by rw [ba_isEmpty]; exact decide_eq_false h1
  have g2 : y.fn.toList.isEmpty = false := by rw [ba_isEmpty]; exact decide_eq_false h2
  have he : x.fn.toList = y.fn.toList := ba_toList_inj.2 ((cB_ord.zero _ _ trivial).1 hc)
  have hbl := bl_cB x.fn y.fn
  rw [hc] at hbl
  have hbl' : Op.bytesLess x.fn.toList y.fn.toList = false := by rw [hbl]; rfl
  have hbl2 : Op.bytesLess y.fn.toList y.fn.toList = false := by rw [← hbl', he]
  have h3 : ((x.args.length : Int) != (y.args.length : Int)) = true := by rw [bne_iff_ne]; omega
  clear h1 h2 hc hbl hl
  go_enter Try.func55, Try.ntmps55
  go_wp2_with (go_at_call 83; refine (sign_any _ _ _).mono ?_; rintro e w' ⟨rfl, rfl⟩)
  go_ret
  exact ⟨ret_i64 HS.symm, below_box2 w _ _⟩

theorem rcmps_drop (l m : List T) (k : Nat) (h : k < l.length) (h' : k < m.length) : T.rcmp.rcmps (l.drop k) (m.drop k) = or2 (T.rcmp l[k] m[k]) (T.rcmp.rcmps (l.drop (k + 1)) (m.drop (k + 1))) := by
  rw [List.drop_eq_getElem_cons h, List.drop_eq_getElem_cons h']
  simp only [T.rcmp.rcmps]

/-- The contract of the document's Cmp at x. -/
def RCmpAt (x : T) : Prop := ∀ (y : T) (sx sy : Value) (w : World), ArgsAt w sx x.args → ArgsAt w sy y.args →
    Calls Try.prog 55 #[tval x sx, tval y sy] w fun e w' => e = .returned (.int .i64 (T.rcmp x y)) ∧ Below w.heap.size w w'

set_option maxHeartbeats 2000000 in
theorem rcmp_loop (x y : T) (ih : ∀ a ∈ x.args, RCmpAt a) (a b : Option Addr) (c d : Nat) (w : World) (ha : ArgsAt w (.slice a x.args.length c) x.args) (hb : ArgsAt w (.slice b y.args.length d) y.args) (hm : x.args.length ≤ 9223372036854775807)
    (h1 : x.fn.size ≠ 0) (h2 : y.fn.size ≠ 0) (hc : cB x.fn y.fn = 0) (hl : x.args.length = y.args.length) :
    Calls Try.prog 55 #[tval x (.slice a x.args.length c), tval y (.slice b y.args.length d)] w fun e w' => e = .returned (.int .i64 (T.rcmp x y)) ∧ Below w.heap.size w w' := by
  have HS : Hid (T.rcmp x y = T.rcmp.rcmps x.args y.args) := by
    show T.rcmp x y = _
    rw [x.rcmp_eq, if_neg h1, if_neg h2, hc]
    refine (if_pos rfl).trans (if_pos ?_)
    rw [hl]
    exact (cI_ord.zero _ _ trivial).2 rfl
  have HL : Hid (x.args.length = y.args.length) := hl
  have g1 : x.fn.toList.isEmpty = false := by rw [ba_isEmpty]; exact decide_eq_false h1
  have g2 : y.fn.toList.isEmpty = false := by rw [ba_isEmpty]; exact decide_eq_false h2
  have he : x.fn.toList = y.fn.toList := ba_toList_inj.2 ((cB_ord.zero _ _ trivial).1 hc)
  have hbl := bl_cB x.fn y.fn
  rw [hc] at hbl
  have hbl' : Op.bytesLess x.fn.toList y.fn.toList = false := by rw [hbl]; rfl
  have hbl2 : Op.bytesLess y.fn.toList y.fn.toList = false := by rw [← hbl', he]
  have h3 : ((x.args.length : Int) != (y.args.length : Int)) = false := by rw [bne_eq_false_iff_eq]; omega
  clear h1 h2 hc hbl hl
  go_enter Try.func55, Try.ntmps55
  go_wp2
  go_loopw [5] (fun i wr => ∃ k : Nat, k ≤ x.args.length ∧ i = .int .i64 k ∧ Hid (T.rcmp.rcmps x.args y.args = T.rcmp.rcmps (x.args.drop k) (y.args.drop k)) ∧ Below (w.heap.size + 2) (tbox2 w x (.slice a x.args.length c) y (.slice b y.args.length d)) wr) (fun i _ => x.args.length - (intOf i).toNat)
  case atStart => exact ⟨0, Nat.zero_le _, rfl, rfl, Below.refl _ _⟩
  case round =>
    obtain ⟨k, hk, rfl, hall, hw⟩ := hrel
    obtain ⟨⟨_, _, t2⟩, ⟨_, _, u2⟩⟩ := tbox2_cells w x (.slice a x.args.length c) y (.slice b y.args.length d)
    have t2' := (hw.cell (p := ⟨w.heap.size, 2, none⟩) (by show w.heap.size < w.heap.size + 2; omega)).trans t2
    have u2' := (hw.cell (p := ⟨w.heap.size + 1, 2, none⟩) (by simp)).trans u2
    clear t2 u2
    have hwb : Below w.heap.size w wr := (below_box2 w _ _).trans (hw.mono (by omega))
    have haw := ArgsAt.keep hwb (Nat.le_refl _) ha
    have hbw := ArgsAt.keep hwb (Nat.le_refl _) hb
    by_cases hlt : k < x.args.length
    · have hlt' : k < y.args.length := HL ▸ hlt
      obtain ⟨ba, oa, s, rfl, hba, a0, a1, a2, hs⟩ := haw.nth hlt
      obtain ⟨bb, ob, s', rfl, hbb, b0, b1, b2, hs'⟩ := hbw.nth hlt'
      have hdr : Below wr.heap.size wr wr.drew := (Below.refl _ wr).drew
      have ih' := (ih x.args[k] (List.getElem_mem hlt) y.args[k] s s' wr.drew (ArgsAt.keep hdr (Nat.le_refl _) hs) (ArgsAt.keep hdr (Nat.le_refl _) hs')).mono (R' := fun e w' => e = .returned (.int .i64 (T.rcmp x.args[k] y.args[k])) ∧ Below wr.heap.size wr w') (fun e w' h => ⟨h.1, hdr.trans h.2⟩)
      have hsz := hw.size
      simp only [World.size_alloc] at hsz
      have l0 : w.heap.size < wr.heap.size := by omega
      have l1 : w.heap.size + 1 < wr.heap.size := by omega
      have hbel : ∀ w', Below wr.heap.size wr w' → Below (w.heap.size + 2) (tbox2 w x (.slice (some ⟨ba, oa, none⟩) x.args.length c) y (.slice (some ⟨bb, ob, none⟩) y.args.length d)) w' := fun w' hb' => hw.trans (hb'.mono (by omega))
      have hst := rcmps_drop x.args y.args k hlt hlt'
      clear ih ha hb haw hbw
      generalize hcv : T.rcmp x.args[k] y.args[k] = cv at *
      clear hcv
      go_wp2
      go_region_held3 (fun w' => w'.cell? ⟨w.heap.size, 2, none⟩ = some (.slice (some ⟨ba, oa, none⟩) x.args.length c) ∧ w'.cell? ⟨w.heap.size + 1, 2, none⟩ = some (.slice (some ⟨bb, ob, none⟩) y.args.length d) ∧ w'.cell? ⟨ba, oa + k * 3, none⟩ = some (.int .i64 x.args[k].v) ∧ w'.cell? ⟨ba, oa + k * 3 + 1, none⟩ = some (.string x.args[k].fn) ∧ w'.cell? ⟨ba, oa + k * 3 + 2, none⟩ = some s ∧ w'.cell? ⟨bb, ob + k * 3, none⟩ = some (.int .i64 y.args[k].v) ∧ w'.cell? ⟨bb, ob + k * 3 + 1, none⟩ = some (.string y.args[k].fn) ∧ w'.cell? ⟨bb, ob + k * 3 + 2, none⟩ = some s') (first | exact ⟨t2', u2', a0, a1, a2, b0, b1, b2⟩ | exact ⟨kc hb' l0 t2', kc hb' l1 u2', kc hb' hba a0, kc hb' hba a1, kc hb' hba a2, kc hb' hbb b0, kc hb' hbb b1, kc hb' hbb b2⟩) (first | (go_at_call 55; refine ih'.mono ?_; rintro e w' ⟨rfl, hb'⟩))
      by_cases hz : cv = 0
      · have hbz : (cv != 0) = false := by rw [bne_eq_false_iff_eq]; exact hz
        have Hf : Hid (T.rcmp.rcmps x.args y.args = T.rcmp.rcmps (x.args.drop (k + 1)) (y.args.drop (k + 1))) := by
          show T.rcmp.rcmps x.args y.args = _
          rw [hall, hst, hz]
          rfl
        clear hz hst hall HS
        go_wp2
        go_roundw
        case rel => exact ⟨k + 1, by omega, by go_num, Hf, hbel _ hb'⟩
        case measure => simp [intOf]; omega
      · have hbz : (cv != 0) = true := by rw [bne_iff_ne]; exact hz
        have Hf : Hid (T.rcmp x y = cv) := by
          show T.rcmp x y = _
          rw [HS, hall, hst]
          exact if_neg hz
        clear hz hst hall HS
        go_wp2
        go_ret
        exact ⟨ret_i64 Hf.symm, (below_box2 w _ _).trans ((hbel _ hb').mono (by omega))⟩
    · have Hf : Hid (T.rcmp x y = 0) := by
        show T.rcmp x y = _
        have hl : x.args.length = y.args.length := HL
        have e1 : x.args.drop k = [] := List.drop_of_length_le (by omega)
        have e2 : y.args.drop k = [] := List.drop_of_length_le (by omega)
        rw [HS, hall, e1, e2]
        simp only [T.rcmp.rcmps]
      clear hall HS
      go_wp2
      go_ret
      exact ⟨ret_i64 Hf.symm, hwb⟩

theorem rcmp_any (x : T) : RCmpAt x := by
  induction x using T.ind with
  | _ x ih =>
    intro y sx sy w hx hy
    obtain ⟨a, c, rfl, hc, hm⟩ := hx.slice
    obtain ⟨b, d, rfl, hd, hm'⟩ := hy.slice
    by_cases h1 : x.fn.size = 0
    · by_cases h2 : y.fn.size = 0
      · exact rcmp_var x y a b _ c _ d w h1 h2
      · exact rcmp_lo x y a b _ c _ d w h1 h2
    · by_cases h2 : y.fn.size = 0
      · exact rcmp_hi x y a b _ c _ d w h1 h2
      · by_cases hcb : cB x.fn y.fn = 0
        · by_cases hl : x.args.length = y.args.length
          · exact rcmp_loop x y ih a b c d w hx hy (by omega) h1 h2 hcb hl
          · exact rcmp_len x y a b c d w h1 h2 hcb hl
        · exact rcmp_fns x y a b _ c _ d w h1 h2 hcb

end Go.Proofs.Ytgnjgpplelakkaa
