/-
  The walks of Cmp: the library's comparisons, slices.CompareFunc, term.Cmp.
-/
import Derived.Test.YtgnjgpplelakkaaE
import Derived.Lib.Strings
import Derived.Lib.Walk
namespace Go.Proofs.Ytgnjgpplelakkaa
open Go.RowKit

set_option maxHeartbeats 1000000 in
set_option maxRecDepth 100000 in
theorem cmpStr_any (a b : ByteArray) (w : World) :
    Calls Try.prog 111 #[.string a, .string b] w fun e w' => e = .returned (.int .i64 (cB a b)) ∧ w' = w := by
  go_enter Try.func111, Try.ntmps111
  go_wp2
  rw [run_callFunc_extern Try.func124 (by kernel_rfl) (by kernel_rfl) (by kernel_rfl) (e := Extern.BytealgCompare.compare) (by kernel_rfl), Lib.run_compareString]
  simp only [Result.andThen]
  rw [Oper.upon_value]
  go_wp2
  go_ret
  exact ⟨rfl, rfl⟩

set_option maxHeartbeats 1000000 in
theorem strCmp_any (a b : ByteArray) (w : World) :
    Calls Try.prog 80 #[.string a, .string b] w fun e w' => e = .returned (.int .i64 (cB a b)) ∧ w' = w := by
  go_enter Try.func80, Try.ntmps80
  go_wp2_with (go_at_call 111; refine (cmpStr_any _ _ _).mono ?_; rintro e w' ⟨rfl, rfl⟩)
  go_ret
  exact ⟨rfl, rfl⟩

set_option maxHeartbeats 1000000 in
theorem nan_any (x : Int) (w : World) : Calls Try.prog 112 #[.int .i64 x] w fun e w' => e = .returned (.bool false) ∧ w' = w := by
  go_enter Try.func112, Try.ntmps112
  go_wp2
  all_goals go_ret
  all_goals refine ⟨ret_bool ?_, rfl⟩
  all_goals simp

set_option maxHeartbeats 1000000 in
theorem cmpInt_any (x y : Int) (w : World) :
    Calls Try.prog 81 #[.int .i64 x, .int .i64 y] w fun e w' => e = .returned (.int .i64 (cI x y)) ∧ w' = w := by
  go_enter Try.func81, Try.ntmps81
  go_wp2_with (go_at_call 112; refine (nan_any _ _).mono ?_; rintro e w' ⟨rfl, rfl⟩)
  all_goals (go_ret; refine ⟨?_, rfl⟩; unfold cI Lib.compareInt; (repeat' split) <;> first | rfl | (exfalso; omega))

set_option maxHeartbeats 1000000 in
theorem sign_any (x y : Int) (w : World) :
    Calls Try.prog 83 #[.int .i64 x, .int .i64 y] w fun e w' => e = .returned (.int .i64 (cI x y)) ∧ w' = w := by
  go_enter Try.func83, Try.ntmps83
  go_wp2
  all_goals (go_ret; refine ⟨?_, rfl⟩; unfold cI Lib.compareInt; (repeat' split) <;> first | rfl | (exfalso; omega))

set_option maxHeartbeats 1000000 in
theorem or3_any (g : Nat) (p q r : Int) (w : World) (c0 : w.cell? ⟨g, 0, none⟩ = some (.int .i64 p)) (c1 : w.cell? ⟨g, 1, none⟩ = some (.int .i64 q)) (c2 : w.cell? ⟨g, 2, none⟩ = some (.int .i64 r)) :
    Calls Try.prog 53 #[.slice (some ⟨g, 0, none⟩) 3 3] w fun e w' => e = .returned (.int .i64 (or2 p (or2 q r))) ∧ w' = w := by
  go_enter Try.func53, Try.ntmps53
  go_wp2
  go_loop [8] (fun i => ∃ k : Nat, k ≤ 3 ∧ i = .int .i64 k ∧ (0 < k → p = 0) ∧ (1 < k → q = 0) ∧ (2 < k → r = 0)) (fun i => 3 - (intOf i).toNat)
  case atStart => exact ⟨0, by omega, rfl, by omega, by omega, by omega⟩
  case round =>
    obtain ⟨k, hk, rfl, h0, h1, h2⟩ := hrel
    obtain rfl | rfl | rfl | rfl : k = 0 ∨ k = 1 ∨ k = 2 ∨ k = 3 := by omega
    · by_cases hp : p = 0
      · have hb : (p != 0) = false := by rw [bne_eq_false_iff_eq]; exact hp
        have H : Hid (p = 0) := hp
        clear hp h0 h1 h2
        go_wp2
        go_round
        case rel => exact ⟨1, by omega, rfl, fun _ => H, by omega, by omega⟩
        case measure => simp [intOf]
      · have hb : (p != 0) = true := by rw [bne_iff_ne]; exact hp
        have H : Hid (or2 p (or2 q r) = p) := if_neg hp
        clear hp h0 h1 h2
        go_wp2
        go_ret
        exact ⟨ret_i64 H.symm, rfl⟩
    · have H0 : Hid (p = 0) := h0 (by omega)
      clear h0 h1 h2
      by_cases hp : q = 0
      · have hb : (q != 0) = false := by rw [bne_eq_false_iff_eq]; exact hp
        have H : Hid (q = 0) := hp
        clear hp
        go_wp2
        go_round
        case rel => exact ⟨2, by omega, rfl, fun _ => H0, fun _ => H, by omega⟩
        case measure => simp [intOf]
      · have hb : (q != 0) = true := by rw [bne_iff_ne]; exact hp
        have H : Hid (or2 p (or2 q r) = q) := by
          show or2 p (or2 q r) = q
          rw [show p = 0 from H0]
          exact (if_pos rfl).trans (if_neg hp)
        clear hp
        go_wp2
        go_ret
        exact ⟨ret_i64 H.symm, rfl⟩
    · have H0 : Hid (p = 0) := h0 (by omega)
      have H1 : Hid (q = 0) := h1 (by omega)
      clear h0 h1 h2
      have HE : Hid (or2 p (or2 q r) = r) := by
        show or2 p (or2 q r) = r
        rw [show p = 0 from H0, show q = 0 from H1]
        rfl
      by_cases hp : r = 0
      · have hb : (r != 0) = false := by rw [bne_eq_false_iff_eq]; exact hp
        have H : Hid (r = 0) := hp
        clear hp
        go_wp2
        go_round
        case rel => exact ⟨3, by omega, rfl, fun _ => H0, fun _ => H1, fun _ => H⟩
        case measure => simp [intOf]
      · have hb : (r != 0) = true := by rw [bne_iff_ne]; exact hp
        clear hp
        go_wp2
        go_ret
        exact ⟨ret_i64 (by rw [HE]), rfl⟩
    · have HE : Hid (or2 p (or2 q r) = 0) := by
        show or2 p (or2 q r) = 0
        rw [h0 (by omega), h1 (by omega), h2 (by omega)]
        rfl
      clear h0 h1 h2
      go_wp2
      go_ret
      exact ⟨ret_i64 (by rw [HE]), rfl⟩

/-- The contract of term.Cmp at x. -/
def CmpAt (x : T) : Prop := ∀ (y : T) (sx sy : Value) (w : World), ArgsAt w sx x.args → ArgsAt w sy y.args →
    Calls Try.prog 54 #[tval x sx, tval y sy] w fun e w' => e = .returned (.int .i64 (T.cmp x y)) ∧ Below w.heap.size w w'

theorem cmps_drop (l m : List T) (k : Nat) (h : k < l.length) (h' : k < m.length) : T.cmp.cmps (l.drop k) (m.drop k) = or2 (T.cmp l[k] m[k]) (T.cmp.cmps (l.drop (k + 1)) (m.drop (k + 1))) := by
  rw [List.drop_eq_getElem_cons h, List.drop_eq_getElem_cons h']
  simp only [T.cmp.cmps]

set_option maxHeartbeats 2000000 in
theorem cmpf_any (l m : List T) (ih : ∀ a ∈ l, CmpAt a) (sl sm : Value) (w : World) (ha : ArgsAt w sl l) (hb : ArgsAt w sm m) :
    Calls Try.prog 82 #[sl, sm, .func (.func 54) #[] #[]] w fun e w' => e = .returned (.int .i64 (T.cmp.cmps l m)) ∧ Below w.heap.size w w' := by
  obtain ⟨a, c, rfl, hc, hm⟩ := ha.slice
  obtain ⟨b, d, rfl, hd, hm'⟩ := hb.slice
  go_enter Try.func82, Try.ntmps82
  go_wp2
  go_loopw [13] (fun i wr => ∃ k : Nat, k ≤ l.length ∧ k ≤ m.length ∧ i = .int .i64 k ∧ Hid (T.cmp.cmps l m = T.cmp.cmps (l.drop k) (m.drop k)) ∧ Below w.heap.size w wr) (fun i _ => l.length - (intOf i).toNat)
  case atStart => exact ⟨0, Nat.zero_le _, Nat.zero_le _, rfl, rfl, Below.refl _ _⟩
  case round =>
    obtain ⟨k, hk, hk', rfl, hall, hw⟩ := hrel
    have haw := ArgsAt.keep hw (Nat.le_refl _) ha
    have hbw := ArgsAt.keep hw (Nat.le_refl _) hb
    by_cases hlt : k < l.length
    · obtain ⟨ba, oa, s, rfl, hba, a0, a1, a2, hs⟩ := haw.nth hlt
      obtain ⟨aa, cs, rfl, _, _⟩ := hs.slice
      by_cases hlt' : k < m.length
      · obtain ⟨bb, ob, s', rfl, hbb, b0, b1, b2, hs'⟩ := hbw.nth hlt'
        obtain ⟨aa', cs', rfl, _, _⟩ := hs'.slice
        have hbx : Below wr.heap.size wr (tbox2 wr l[k] (.slice aa l[k].args.length cs) m[k] (.slice aa' m[k].args.length cs')) := below_box2 wr _ _
        have ih' := (ih l[k] (List.getElem_mem hlt) m[k] _ _ _ (ArgsAt.keep hbx (Nat.le_refl _) hs) (ArgsAt.keep hbx (Nat.le_refl _) hs')).mono (R' := fun e w' => e = .returned (.int .i64 (T.cmp l[k] m[k])) ∧ Below w.heap.size w w') (fun e w' h => ⟨h.1, hw.trans ((hbx.trans (h.2.mono (by simp; omega))).mono hw.size)⟩)
        have b0' := kc (below_box wr (tbox l[k] (.slice aa l[k].args.length cs))) hbb b0
        have b1' := kc (below_box wr (tbox l[k] (.slice aa l[k].args.length cs))) hbb b1
        have b2' := kc (below_box wr (tbox l[k] (.slice aa l[k].args.length cs))) hbb b2
        have hst := cmps_drop l m k hlt hlt'
        clear ih ha hb haw hbw hbx hs hs'
        generalize hcv : T.cmp l[k] m[k] = cv at *
        by_cases hz : cv = 0
        · have hbz : (cv != 0) = false := by rw [bne_eq_false_iff_eq]; exact hz
          have Hf : Hid (T.cmp.cmps l m = T.cmp.cmps (l.drop (k + 1)) (m.drop (k + 1))) := by
            show T.cmp.cmps l m = T.cmp.cmps (l.drop (k + 1)) (m.drop (k + 1))
            rw [hall, hst, hz]
            rfl
          clear hz hcv hst
          go_wp2_with (go_at_call 54; refine ih'.mono ?_; rintro e w' ⟨rfl, hb'⟩)
          go_roundw
          case rel => exact ⟨k + 1, by omega, by omega, by go_num, Hf, hb'⟩
          case measure => simp [intOf]; omega
        · have hbz : (cv != 0) = true := by rw [bne_iff_ne]; exact hz
          have Hf : Hid (T.cmp.cmps l m = cv) := by
            show T.cmp.cmps l m = cv
            rw [hall, hst]
            exact if_neg hz
          clear hz hcv hst
          go_wp2_with (go_at_call 54; refine ih'.mono ?_; rintro e w' ⟨rfl, hb'⟩)
          go_ret
          exact ⟨ret_i64 Hf.symm, hb'⟩
      · have Hf : Hid (T.cmp.cmps l m = 1) := by
          show T.cmp.cmps l m = 1
          have e1 : m.drop k = [] := List.drop_of_length_le (by omega)
          rw [hall, List.drop_eq_getElem_cons hlt, e1]
          simp only [T.cmp.cmps]
        clear ih ha hb haw hbw
        go_wp2
        go_ret
        exact ⟨ret_i64 Hf.symm, hw.trans ((below_box wr _).mono hw.size)⟩
    · clear ih ha hb haw hbw
      by_cases hlt' : l.length < m.length
      · have Hf : Hid (T.cmp.cmps l m = -1) := by
          show T.cmp.cmps l m = -1
          have e1 : l.drop k = [] := List.drop_of_length_le (by omega)
          have hkm : k < m.length := by omega
          rw [hall, e1, List.drop_eq_getElem_cons hkm]
          simp only [T.cmp.cmps]
        go_wp2
        go_ret
        exact ⟨ret_i64 Hf.symm, hw⟩
      · have Hf : Hid (T.cmp.cmps l m = 0) := by
          show T.cmp.cmps l m = 0
          have e1 : l.drop k = [] := List.drop_of_length_le (by omega)
          have e2 : m.drop k = [] := List.drop_of_length_le (by omega)
          rw [hall, e1, e2]
          simp only [T.cmp.cmps]
        go_wp2
        go_ret
        exact ⟨ret_i64 Hf.symm, hw⟩

theorem row3 (w : World) (p q r : Int) (B : Nat) (hB : w.heap.size = B) :
    Calls Try.prog 53 #[.slice (some ⟨B, 0, none⟩) 3 3] (w.alloc (.cells #[.int .i64 p, .int .i64 q, .int .i64 r] 3)).drew fun e w' => e = .returned (.int .i64 (or2 p (or2 q r))) ∧ w' = (w.alloc (.cells #[.int .i64 p, .int .i64 q, .int .i64 r] 3)).drew := by
  subst hB
  have h : (w.alloc (.cells #[.int .i64 p, .int .i64 q, .int .i64 r] 3)).drew.heap[w.heap.size]? = some (.cells [Value.int .i64 p, .int .i64 q, .int .i64 r].toArray 3 (0, 0)) := (MapKept.heap_alloc w _).1
  refine or3_any _ _ _ _ _ ?_ ?_ ?_ <;> rw [cell_of_row _ _ _ _ 3 (0, 0) h] <;> rfl

set_option maxHeartbeats 4000000 in
theorem tcmp_one (x y : T) (ih : ∀ a ∈ x.args, CmpAt a) (a b : Option Addr) (c d : Nat) (w : World) (ha : ArgsAt w (.slice a x.args.length c) x.args) (hb : ArgsAt w (.slice b y.args.length d) y.args) (_hm : x.args.length ≤ 9223372036854775807) (_hm' : y.args.length ≤ 9223372036854775807) :
    Calls Try.prog 54 #[tval x (.slice a x.args.length c), tval y (.slice b y.args.length d)] w fun e w' => e = .returned (.int .i64 (T.cmp x y)) ∧ Below w.heap.size w w' := by
  have HE : Hid (T.cmp x y = or2 (cB x.fn y.fn) (or2 (cI x.v y.v) (or2 (cI x.args.length y.args.length) (T.cmp.cmps x.args y.args)))) := x.cmp_eq y
  have hbx : Below w.heap.size w (tbox2 w x (.slice a x.args.length c) y (.slice b y.args.length d)) := below_box2 w _ _
  obtain ⟨⟨t0, t1, t2⟩, ⟨u0, u1, u2⟩⟩ := tbox2_cells w x (.slice a x.args.length c) y (.slice b y.args.length d)
  have ih' : ∀ W, Below (w.heap.size + 2) (tbox2 w x (.slice a x.args.length c) y (.slice b y.args.length d)) W → Calls Try.prog 82 #[.slice a x.args.length c, .slice b y.args.length d, .func (.func 54) #[] #[]] W fun e w' => e = .returned (.int .i64 (T.cmp.cmps x.args y.args)) ∧ Below w.heap.size w w' := fun W hW => by
    have hb2 := hbx.trans (hW.mono (by omega))
    exact (cmpf_any x.args y.args ih _ _ W (ArgsAt.keep hb2 (Nat.le_refl _) ha) (ArgsAt.keep hb2 (Nat.le_refl _) hb)).mono (fun e w' h => ⟨h.1, hb2.trans (h.2.mono hb2.size)⟩)
  clear ih ha hb
  have hor := row3 (tbox2 w x (.slice a x.args.length c) y (.slice b y.args.length d)) (cB x.fn y.fn) (cI x.v y.v) (cI x.args.length y.args.length) (w.heap.size + 1 + 1) (by simp)
  go_enter Try.func54, Try.ntmps54
  go_wp2
  go_region_held3 (fun w' => w'.cell? ⟨w.heap.size, 0, none⟩ = some (.int .i64 x.v) ∧ w'.cell? ⟨w.heap.size, 1, none⟩ = some (.string x.fn) ∧ w'.cell? ⟨w.heap.size, 2, none⟩ = some (.slice a x.args.length c) ∧ w'.cell? ⟨w.heap.size + 1, 0, none⟩ = some (.int .i64 y.v) ∧ w'.cell? ⟨w.heap.size + 1, 1, none⟩ = some (.string y.fn) ∧ w'.cell? ⟨w.heap.size + 1, 2, none⟩ = some (.slice b y.args.length d)) (first | exact ⟨t0, t1, t2, u0, u1, u2⟩ | go_keep) (first | (go_at_call 80; refine (strCmp_any _ _ _).mono ?_; rintro e w' ⟨rfl, rfl⟩) | (go_at_call 81; refine (cmpInt_any _ _ _).mono ?_; rintro e w' ⟨rfl, rfl⟩) | (go_at_call 53; refine hor.mono ?_; rintro e w' ⟨rfl, rfl⟩))
  have hW : Below (w.heap.size + 2) (tbox2 w x (.slice a x.args.length c) y (.slice b y.args.length d)) ((tbox2 w x (.slice a x.args.length c) y (.slice b y.args.length d)).alloc (.cells #[.int .i64 (cB x.fn y.fn), .int .i64 (cI x.v y.v), .int .i64 (cI x.args.length y.args.length)] 3)).drew := ((Below.refl _ _).alloc (by simp) _).drew
  have ih2 := ih' _ hW
  have s2 := kc hW (by omega) t2
  have v2 := kc hW (by omega) u2
  have HE' : Hid (T.cmp x y = or2 (or2 (cB x.fn y.fn) (or2 (cI x.v y.v) (cI x.args.length y.args.length))) (T.cmp.cmps x.args y.args)) := by
    show T.cmp x y = _
    rw [HE]
    unfold or2
    repeat' split
    all_goals first | rfl | omega
  have hWb := hbx.trans (hW.mono (by omega))
  clear hW ih' hor HE hbx t0 t1 t2 u0 u1 u2
  generalize ((tbox2 w x (.slice a x.args.length c) y (.slice b y.args.length d)).alloc (.cells #[.int .i64 (cB x.fn y.fn), .int .i64 (cI x.v y.v), .int .i64 (cI x.args.length y.args.length)] 3)).drew = W at *
  generalize hov : or2 (cB x.fn y.fn) (or2 (cI x.v y.v) (cI x.args.length y.args.length)) = ov at *
  clear hov
  by_cases hz : ov = 0
  · have hbz : (ov != 0) = false := by rw [bne_eq_false_iff_eq]; exact hz
    have Hf : Hid (T.cmp x y = T.cmp.cmps x.args y.args) := by
      show T.cmp x y = _
      rw [HE', hz]
      rfl
    clear hz
    go_wp2_with (go_at_call 82; refine ih2.mono ?_; rintro e w' ⟨rfl, hb'⟩)
    go_ret
    exact ⟨ret_i64 Hf.symm, hb'⟩
  · have hbz : (ov != 0) = true := by rw [bne_iff_ne]; exact hz
    have Hf : Hid (T.cmp x y = ov) := by
      show T.cmp x y = _
      rw [HE']
      exact if_neg hz
    clear hz
    go_wp2
    go_ret
    exact ⟨ret_i64 Hf.symm, hWb⟩

theorem tcmp_any (x : T) : CmpAt x := by
  induction x using T.ind with
  | _ x ih =>
    intro y sx sy w hx hy
    obtain ⟨a, c, rfl, hc, hm⟩ := hx.slice
    obtain ⟨b, d, rfl, hd, hm'⟩ := hy.slice
    exact tcmp_one x y ih a b c d w hx hy (by omega) (by omega)

end Go.Proofs.Ytgnjgpplelakkaa
