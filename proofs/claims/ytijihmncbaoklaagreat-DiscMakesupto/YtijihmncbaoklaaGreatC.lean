/-
  Sameness: the document's Same; term.Same with slices.EqualFunc.
-/
import Derived.Test.YtijihmncbaoklaaGreatB
import Derived.Deep.RegionHeld3
namespace Go.Proofs.YtijihmncbaoklaaGreat
open Go.RowKit

open Classical in
/-- Are both the same? -/
noncomputable def same (x y : T) : Bool := decide (x = y)
theorem same_iff {x y : T} : same x y = true ↔ x = y := by simp [same]
theorem same_false {x y : T} : same x y = false ↔ x ≠ y := by simp [same]
theorem same_ext {x y : T} (h1 : x.v = y.v) (h2 : x.fn = y.fn) (h3 : x.args = y.args) : x = y := by
  rw [x.eta, y.eta, h1, h2, h3]

/-- The boxes of two terms. -/
abbrev tbox2 (w : World) (x : T) (sx : Value) (y : T) (sy : Value) : World := (w.alloc (tbox x sx)).alloc (tbox y sy)

theorem tbox2_cells (w : World) (x : T) (sx : Value) (y : T) (sy : Value) :
    ((tbox2 w x sx y sy).cell? ⟨w.heap.size, 0, none⟩ = some (.int .i64 x.v) ∧ (tbox2 w x sx y sy).cell? ⟨w.heap.size, 1, none⟩ = some (.string x.fn) ∧ (tbox2 w x sx y sy).cell? ⟨w.heap.size, 2, none⟩ = some sx) ∧
    ((tbox2 w x sx y sy).cell? ⟨w.heap.size + 1, 0, none⟩ = some (.int .i64 y.v) ∧ (tbox2 w x sx y sy).cell? ⟨w.heap.size + 1, 1, none⟩ = some (.string y.fn) ∧ (tbox2 w x sx y sy).cell? ⟨w.heap.size + 1, 2, none⟩ = some sy) := by
  have h := tbox_cells (w.alloc (tbox x sx)) y sy
  rw [World.size_alloc] at h
  refine ⟨?_, h⟩
  obtain ⟨h0, h1, h2⟩ := tbox_cells w x sx
  have hb := below_box (w.alloc (tbox x sx)) (tbox y sy)
  exact ⟨(hb.cell (p := ⟨_, _, none⟩) (by simp)).trans h0, (hb.cell (p := ⟨_, _, none⟩) (by simp)).trans h1, (hb.cell (p := ⟨_, _, none⟩) (by simp)).trans h2⟩

theorem kc {A B : World} {n : Nat} (h : Below n A B) {b o : Nat} {v : Value} (hb : b < n) (c : A.cell? ⟨b, o, none⟩ = some v) : B.cell? ⟨b, o, none⟩ = some v := (h.cell (p := ⟨b, o, none⟩) hb).trans c

theorem below_box2 (w : World) (o1 o2 : Obj) : Below w.heap.size w ((w.alloc o1).alloc o2) := ((Below.refl _ _).alloc (Nat.le_refl _) _).alloc (by simp) _

set_option maxHeartbeats 1000000 in
theorem rsame_v (x y : T) (a b : Option Addr) (n c m d : Nat) (w : World) (h : x.v ≠ y.v) :
    Calls Tryz.prog 23 #[tval x (.slice a n c), tval y (.slice b m d)] w fun e w' => e = .returned (.bool (same x y)) ∧ Below w.heap.size w w' := by
  have HS : Hid (same x y = false) := same_false.2 fun e => h (by rw [e])
  have h' : (x.v != y.v) = true := by simpa using h
  clear h
  go_enter Tryz.func23, Tryz.ntmps23
  go_wp2
  go_ret
  exact ⟨ret_bool (by rw [HS]), below_box2 w _ _⟩

theorem ba_toList_inj {s t : ByteArray} : s.toList = t.toList ↔ s = t := by
  rw [ByteArray.toList_eq, ByteArray.toList_eq]
  constructor
  · intro h
    cases s with
    | mk d => cases t with
      | mk e => exact congrArg ByteArray.mk (Array.toList_inj.1 h)
  · rintro rfl
    rfl

set_option maxHeartbeats 1000000 in
theorem rsame_fn (x y : T) (a b : Option Addr) (n c m d : Nat) (w : World) (hv : x.v = y.v) (h : x.fn ≠ y.fn) :
    Calls Tryz.prog 23 #[tval x (.slice a n c), tval y (.slice b m d)] w fun e w' => e = .returned (.bool (same x y)) ∧ Below w.heap.size w w' := by
  have HS : Hid (same x y = false) := same_false.2 fun e => h (by rw [e])
  have h' : (x.v != y.v) = false := by simpa using hv
  have h2 : ¬ x.fn.toList = y.fn.toList := fun e => h (ba_toList_inj.1 e)
  clear hv h
  go_enter Tryz.func23, Tryz.ntmps23
  go_wp2
  all_goals go_ret
  all_goals exact ⟨ret_bool (by rw [HS]), below_box2 w _ _⟩

set_option maxHeartbeats 1000000 in
theorem rsame_len (x y : T) (a b : Option Addr) (c d : Nat) (w : World) (hv : x.v = y.v) (hf : x.fn = y.fn) (h : x.args.length ≠ y.args.length) :
    Calls Tryz.prog 23 #[tval x (.slice a x.args.length c), tval y (.slice b y.args.length d)] w fun e w' => e = .returned (.bool (same x y)) ∧ Below w.heap.size w w' := by
  have HS : Hid (same x y = false) := same_false.2 fun e => h (by rw [e])
  have h' : (x.v != y.v) = false := by simpa using hv
  have h2 : x.fn.toList = y.fn.toList := ba_toList_inj.2 hf
  have h3 : ((x.args.length : Int) != (y.args.length : Int)) = true := by rw [bne_iff_ne]; omega
  clear hv h hf
  go_enter Tryz.func23, Tryz.ntmps23
  go_wp2
  all_goals go_ret
  all_goals exact ⟨ret_bool (by rw [HS]), below_box2 w _ _⟩

theorem list_take_eq {l m : List T} {k : Nat} (hl : l.length = m.length) (hk : k < l.length) (h : l.take k = m.take k) (e : l[k] = m[k]) : l.take (k + 1) = m.take (k + 1) := by
  rw [List.take_succ_eq_append_getElem hk, List.take_succ_eq_append_getElem (by omega), h, e]

set_option maxHeartbeats 2000000 in
theorem rsame_loop (x y : T) (ih : ∀ a ∈ x.args, ∀ (y : T) (sx sy : Value) (w : World), ArgsAt w sx a.args → ArgsAt w sy y.args → Calls Tryz.prog 23 #[tval a sx, tval y sy] w fun e w' => e = .returned (.bool (same a y)) ∧ Below w.heap.size w w')
    (a b : Option Addr) (c d : Nat) (w : World) (ha : ArgsAt w (.slice a x.args.length c) x.args) (hb : ArgsAt w (.slice b y.args.length d) y.args) (hc : x.args.length ≤ 9223372036854775807) (hv : x.v = y.v) (hf : x.fn = y.fn) (h : x.args.length = y.args.length) :
    Calls Tryz.prog 23 #[tval x (.slice a x.args.length c), tval y (.slice b y.args.length d)] w fun e w' => e = .returned (.bool (same x y)) ∧ Below w.heap.size w w' := by
  have HE : Hid (x.v = y.v ∧ x.fn = y.fn ∧ x.args.length = y.args.length) := ⟨hv, hf, h⟩
  have h' : (x.v != y.v) = false := by simpa using hv
  have h2 : x.fn.toList = y.fn.toList := ba_toList_inj.2 hf
  have h3 : ((x.args.length : Int) != (y.args.length : Int)) = false := by rw [bne_eq_false_iff_eq]; omega
  clear hv h hf
  go_enter Tryz.func23, Tryz.ntmps23
  go_wp2
  go_loopw [5] (fun i wr => ∃ k : Nat, k ≤ x.args.length ∧ i = .int .i64 k ∧ Hid (x.args.take k = y.args.take k) ∧ Below (w.heap.size + 2) (tbox2 w x (.slice a x.args.length c) y (.slice b y.args.length d)) wr) (fun i _ => x.args.length - (intOf i).toNat)
  case atStart => exact ⟨0, Nat.zero_le _, rfl, rfl, Below.refl _ _⟩
  case round =>
    obtain ⟨k, hk, rfl, hall, hw⟩ := hrel
    obtain ⟨⟨_, _, t2⟩, ⟨_, _, u2⟩⟩ := tbox2_cells w x (.slice a x.args.length c) y (.slice b y.args.length d)
    have t2' := (hw.cell (p := ⟨w.heap.size, 2, none⟩) (by show w.heap.size < w.heap.size + 2; omega)).trans t2
    have u2' := (hw.cell (p := ⟨w.heap.size + 1, 2, none⟩) (by simp)).trans u2
    clear t2 u2
    have hwb : Below w.heap.size w wr := (below_box2 w _ _).trans (hw.mono (by omega))
    have haw := ArgsAt.keep hwb (Nat.le_refl _) ha
    have hbw := ArgsAt.keep hwb (Nat.le_refl _) hb
    by_cases hlt : k < x.args.length
    · have hlt' : k < y.args.length := HE.2.2 ▸ hlt
      obtain ⟨ba, oa, s, rfl, hba, a0, a1, a2, hs⟩ := haw.nth hlt
      obtain ⟨bb, ob, s', rfl, hbb, b0, b1, b2, hs'⟩ := hbw.nth hlt'
      have hdr : Below wr.heap.size wr wr.drew := (Below.refl _ wr).drew
      have ih' := (ih x.args[k] (List.getElem_mem hlt) y.args[k] s s' wr.drew (ArgsAt.keep hdr (Nat.le_refl _) hs) (ArgsAt.keep hdr (Nat.le_refl _) hs')).mono (R' := fun e w' => e = .returned (.bool (same x.args[k] y.args[k])) ∧ Below wr.heap.size wr w') (fun e w' h => ⟨h.1, hdr.trans h.2⟩)
      have hsz := hw.size
      simp only [World.size_alloc] at hsz
      have l0 : w.heap.size < wr.heap.size := by omega
      have l1 : w.heap.size + 1 < wr.heap.size := by omega
      have hbel : ∀ w', Below wr.heap.size wr w' → Below (w.heap.size + 2) (tbox2 w x (.slice (some ⟨ba, oa, none⟩) x.args.length c) y (.slice (some ⟨bb, ob, none⟩) y.args.length d)) w' := fun w' hb' => hw.trans (hb'.mono (by omega))
      clear ih ha hb haw hbw
      cases hsh : same x.args[k] y.args[k]
      · rw [hsh] at ih'
        have Hf : Hid (same x y = false) := by
          refine same_false.2 fun e => same_false.1 hsh ?_
          subst e
          rfl
        clear hsh
        go_wp2
        go_region_held3 (fun w' => w'.cell? ⟨w.heap.size, 2, none⟩ = some (.slice (some ⟨ba, oa, none⟩) x.args.length c) ∧ w'.cell? ⟨w.heap.size + 1, 2, none⟩ = some (.slice (some ⟨bb, ob, none⟩) y.args.length d) ∧ w'.cell? ⟨ba, oa + k * 3, none⟩ = some (.int .i64 x.args[k].v) ∧ w'.cell? ⟨ba, oa + k * 3 + 1, none⟩ = some (.string x.args[k].fn) ∧ w'.cell? ⟨ba, oa + k * 3 + 2, none⟩ = some s ∧ w'.cell? ⟨bb, ob + k * 3, none⟩ = some (.int .i64 y.args[k].v) ∧ w'.cell? ⟨bb, ob + k * 3 + 1, none⟩ = some (.string y.args[k].fn) ∧ w'.cell? ⟨bb, ob + k * 3 + 2, none⟩ = some s') (first | exact ⟨t2', u2', a0, a1, a2, b0, b1, b2⟩ | exact ⟨kc hb' l0 t2', kc hb' l1 u2', kc hb' hba a0, kc hb' hba a1, kc hb' hba a2, kc hb' hbb b0, kc hb' hbb b1, kc hb' hbb b2⟩) (first | (go_at_call 23; refine ih'.mono ?_; rintro e w' ⟨rfl, hb'⟩))
        go_wp2
        go_ret
        exact ⟨ret_bool (by rw [Hf]), (below_box2 w _ _).trans ((hbel _ hb').mono (by omega))⟩
      · rw [hsh] at ih'
        have Hf : Hid (x.args.take (k + 1) = y.args.take (k + 1)) := list_take_eq HE.2.2 hlt hall (same_iff.1 hsh)
        clear hsh
        go_wp2
        go_region_held3 (fun w' => w'.cell? ⟨w.heap.size, 2, none⟩ = some (.slice (some ⟨ba, oa, none⟩) x.args.length c) ∧ w'.cell? ⟨w.heap.size + 1, 2, none⟩ = some (.slice (some ⟨bb, ob, none⟩) y.args.length d) ∧ w'.cell? ⟨ba, oa + k * 3, none⟩ = some (.int .i64 x.args[k].v) ∧ w'.cell? ⟨ba, oa + k * 3 + 1, none⟩ = some (.string x.args[k].fn) ∧ w'.cell? ⟨ba, oa + k * 3 + 2, none⟩ = some s ∧ w'.cell? ⟨bb, ob + k * 3, none⟩ = some (.int .i64 y.args[k].v) ∧ w'.cell? ⟨bb, ob + k * 3 + 1, none⟩ = some (.string y.args[k].fn) ∧ w'.cell? ⟨bb, ob + k * 3 + 2, none⟩ = some s') (first | exact ⟨t2', u2', a0, a1, a2, b0, b1, b2⟩ | exact ⟨kc hb' l0 t2', kc hb' l1 u2', kc hb' hba a0, kc hb' hba a1, kc hb' hba a2, kc hb' hbb b0, kc hb' hbb b1, kc hb' hbb b2⟩) (first | (go_at_call 23; refine ih'.mono ?_; rintro e w' ⟨rfl, hb'⟩))
        go_wp2
        go_roundw
        case rel => exact ⟨k + 1, by omega, by go_num, Hf, hbel _ hb'⟩
        case measure => simp [intOf]; omega
    · have Hf : Hid (same x y = true) := by
        refine same_iff.2 (same_ext HE.1 HE.2.1 ?_)
        have hall' : x.args.take k = y.args.take k := hall
        have hl := HE.2.2
        rw [List.take_of_length_le (by omega), List.take_of_length_le (by omega)] at hall'
        exact hall'
      go_wp2
      go_ret
      exact ⟨ret_bool (by rw [Hf]), hwb⟩

theorem rsame_any (x : T) : ∀ (y : T) (sx sy : Value) (w : World), ArgsAt w sx x.args → ArgsAt w sy y.args →
    Calls Tryz.prog 23 #[tval x sx, tval y sy] w fun e w' => e = .returned (.bool (same x y)) ∧ Below w.heap.size w w' := by
  induction x using T.ind with
  | _ x ih =>
    intro y sx sy w hx hy
    obtain ⟨a, c, rfl, hc, hm⟩ := hx.slice
    obtain ⟨b, d, rfl, hd, hm'⟩ := hy.slice
    by_cases hv : x.v = y.v
    · by_cases hf : x.fn = y.fn
      · by_cases hl : x.args.length = y.args.length
        · exact rsame_loop x y ih a b c d w hx hy (by omega) hv hf hl
        · exact rsame_len x y a b c d w hv hf hl
      · exact rsame_fn x y a b _ c _ d w hv hf
    · exact rsame_v x y a b _ c _ d w hv

end Go.Proofs.YtijihmncbaoklaaGreat
