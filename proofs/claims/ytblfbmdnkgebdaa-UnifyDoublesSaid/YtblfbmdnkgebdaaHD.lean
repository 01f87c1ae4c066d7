/-
  alive: the chapter's examples, in memory.
-/
import Derived.Test.YtblfbmdnkgebdaaHC
namespace Go.Proofs.Ytblfbmdnkgebdaa
open Go.RowKit Go.Maps

theorem args_two {W : World} {N : Nat} {v0 v1 : Int} {f0 f1 : ByteArray} (h : W.heap[N]? = some (.cells #[.int .i64 v0, .string f0, .slice none 0 0, .int .i64 v1, .string f1, .slice none 0 0] 24 (0, 0))) : ArgsAt W (.slice (some ⟨N, 0, none⟩) 2 2) [.mk v0 f0 [], .mk v1 f1 []] := by
  have hl : N < W.heap.size := (Array.getElem?_eq_some_iff.1 h).1
  refine .mk (some ⟨N, 0, none⟩) 2 [.mk v0 f0 [], .mk v1 f1 []] (fun _ => .slice none 0 0) (Nat.le_refl _) (by decide) (fun _ => ⟨N, 0, hl, rfl, fun i hi => ?_⟩) (fun i hi => ?_)
  · match i, hi with
    | 0, _ => refine ⟨?_, ?_, ?_⟩ <;> simp [World.cell?, h, T.v, T.fn]
    | 1, _ => refine ⟨?_, ?_, ?_⟩ <;> simp [World.cell?, h, T.v, T.fn]
  · match i, hi with
    | 0, _ => exact (ArgsFr.nil 0 W).args
    | 1, _ => exact (ArgsFr.nil 0 W).args
theorem args_one {W : World} {N : Nat} {v0 : Int} {f0 : ByteArray} (h : W.heap[N]? = some (.cells #[.int .i64 v0, .string f0, .slice none 0 0] 24 (0, 0))) : ArgsAt W (.slice (some ⟨N, 0, none⟩) 1 1) [.mk v0 f0 []] := by
  have hl : N < W.heap.size := (Array.getElem?_eq_some_iff.1 h).1
  refine .mk (some ⟨N, 0, none⟩) 1 [.mk v0 f0 []] (fun _ => .slice none 0 0) (Nat.le_refl _) (by decide) (fun _ => ⟨N, 0, hl, rfl, fun i hi => ?_⟩) (fun i hi => ?_)
  · match i, hi with
    | 0, _ => refine ⟨?_, ?_, ?_⟩ <;> simp [World.cell?, h, T.v, T.fn]
  · match i, hi with
    | 0, _ => exact (ArgsFr.nil 0 W).args

theorem small2 (c : UInt8) (x y : T) (hx : x.size = 1) (hy : y.size = 1) : (fn2 c x y).size ≤ 1048576 := by rw [T.size_eq]; simp [T.args, hx, hy]
theorem small1 (c : UInt8) (x : T) (hx : x.size = 1) : (fn1 c x).size ≤ 1048576 := by rw [T.size_eq]; simp [T.args, hx]

theorem un_one (W : World) (sa sb : Value) (ha : ArgsAt W sa [var 0, cn 98]) (hb : ArgsAt W sb [cn 97, var 1]) :
    Calls Try.prog 9 #[.agg #[.int .i64 0, .string ⟨#[102]⟩, sa], .agg #[.int .i64 0, .string ⟨#[102]⟩, sb]] W fun e W' => ∃ v, e = .returned (.tuple #[v, .bool true, .int .i64 0]) ∧ BindsAt W' v [(0, cn 97), (1, cn 98)] ∧ Below W.heap.size W W' := by
  refine (unify_any (fn2 102 (var 0) (cn 98)) (fn2 102 (cn 97) (var 1)) sa sb W ha hb (small2 _ _ _ (var_size 0).1 (cn_small 98).1) (small2 _ _ _ (cn_small 97).1 (var_size 1).1)).mono ?_
  rintro e W' ⟨h1, h2⟩
  obtain ⟨v, h3, h4⟩ := ex_one e W' h1
  exact ⟨v, h3, h4, h2⟩
theorem un_two (W : World) (sb : Value) (hb : ArgsAt W sb [var 0]) :
    Calls Try.prog 9 #[.agg #[.int .i64 0, .string ⟨#[]⟩, .slice none 0 0], .agg #[.int .i64 0, .string ⟨#[103]⟩, sb]] W fun e W' => e = .returned (.tuple #[.slice none 0 0, .bool false, .int .i64 0]) ∧ Below W.heap.size W W' := by
  refine (unify_any (var 0) (fn1 103 (var 0)) (.slice none 0 0) sb W (ArgsFr.nil 0 W).args hb (by have := (var_size 0).1; omega) (small1 _ _ (var_size 0).1)).mono ?_
  rintro e W' ⟨h1, h2⟩
  exact ⟨ex_two e W' h1, h2⟩
theorem un_three (W : World) :
    Calls Try.prog 9 #[.agg #[.int .i64 3, .string ⟨#[]⟩, .slice none 0 0], .agg #[.int .i64 1, .string ⟨#[]⟩, .slice none 0 0]] W fun e W' => ∃ v, e = .returned (.tuple #[v, .bool true, .int .i64 0]) ∧ BindsAt W' v [(3, var 1)] ∧ Below W.heap.size W W' := by
  refine (unify_any (var 3) (var 1) (.slice none 0 0) (.slice none 0 0) W (ArgsFr.nil 0 W).args (ArgsFr.nil 0 W).args (by have := (var_size 3).1; omega) (by have := (var_size 1).1; omega)).mono ?_
  rintro e W' ⟨h1, h2⟩
  obtain ⟨v, h3, h4⟩ := ex_three e W' h1
  exact ⟨v, h3, h4, h2⟩

set_option maxRecDepth 100000 in
set_option maxHeartbeats 4000000 in
theorem alive_any (w : World) : Calls Try.prog 12 #[] w fun e W => e = .returned (.bool true) ∧ Below w.heap.size w W := by
  obtain ⟨W2, hW2⟩ : ∃ X, (w.alloc (.cells #[.int .i64 0, .string ⟨#[97]⟩, .slice none 0 0] 24)).alloc (.cells #[.int .i64 0, .string ⟨#[98]⟩, .slice none 0 0] 24) = X := ⟨_, rfl⟩
  have s2 : W2.heap.size = w.heap.size + 1 + 1 := by rw [← hW2]; simp
  obtain ⟨W4, hW4⟩ : ∃ X, (W2.alloc (.cells #[.int .i64 0, .string ⟨#[]⟩, .slice none 0 0, .int .i64 0, .string ⟨#[98]⟩, .slice none 0 0] 24)).alloc (.cells #[.int .i64 0, .string ⟨#[97]⟩, .slice none 0 0, .int .i64 1, .string ⟨#[]⟩, .slice none 0 0] 24) = X := ⟨_, rfl⟩
  have e0 : W4.heap[w.heap.size + 1 + 1]? = some (.cells #[.int .i64 0, .string ⟨#[]⟩, .slice none 0 0, .int .i64 0, .string ⟨#[98]⟩, .slice none 0 0] 24 (0, 0)) := by
    rw [← hW4, ← s2]
    exact ((below_box (W2.alloc _) _).block _ (by simp)).trans (MapKept.heap_alloc W2 _).1
  have e1 : W4.heap[w.heap.size + 1 + 1 + 1]? = some (.cells #[.int .i64 0, .string ⟨#[97]⟩, .slice none 0 0, .int .i64 1, .string ⟨#[]⟩, .slice none 0 0] 24 (0, 0)) := by
    have := (MapKept.heap_alloc (W2.alloc (.cells #[.int .i64 0, .string ⟨#[]⟩, .slice none 0 0, .int .i64 0, .string ⟨#[98]⟩, .slice none 0 0] 24)) (.cells #[.int .i64 0, .string ⟨#[97]⟩, .slice none 0 0, .int .i64 1, .string ⟨#[]⟩, .slice none 0 0] 24)).1
    rw [World.size_alloc, s2, hW4] at this
    exact this
  have b4 : Below w.heap.size w W4 := by
    have h1 : Below w.heap.size w W2 := by rw [← hW2]; exact below_box2 w _ _
    have h2 : Below W2.heap.size W2 W4 := by rw [← hW4]; exact below_box2 W2 _ _
    exact h1.trans (h2.mono h1.size)
  have h1 := un_one W4 _ _ (args_two e0) (args_two e1)
  have HW4 : Hid (_ = W4) := hW4
  rw [← hW2] at HW4
  have HB4 := hid b4
  clear e0 e1 b4 hW4 s2 hW2
  go_enter Try.func12, Try.ntmps12
  go_wp2_with fail
  rw [HW4.out]
  refine h1.mono ?_
  clear h1
  rintro e W5 ⟨v1, rfl, l1, b5⟩
  obtain ⟨a1, c1, rfl, _, _, hx⟩ := l1
  obtain ⟨g1, o1, rfl, hy⟩ := hx (by simp)
  obtain ⟨q1, k1⟩ := hy 1 (by simp)
  obtain ⟨W6, hW6⟩ : ∃ X, W5.alloc (.cells #[.int .i64 0, .string ⟨#[]⟩, .slice none 0 0] 24) = X := ⟨_, rfl⟩
  have b6 : Below W5.heap.size W5 W6 := by rw [← hW6]; exact below_box W5 _
  have e6 : W6.heap[W5.heap.size]? = some (.cells #[.int .i64 0, .string ⟨#[]⟩, .slice none 0 0] 24 (0, 0)) := by rw [← hW6]; exact (MapKept.heap_alloc W5 _).1
  have h2 := un_two W6 _ (args_one e6)
  have HW6 := hid hW6
  have HK1 : Hid (BindAt W5 g1 (o1 + 1 * 4) (1, cn 98) q1 ∧ Below w.heap.size w W5 ∧ Below W5.heap.size W5 W6) := ⟨k1, HB4.out.trans (b5.mono HB4.out.size), b6⟩
  clear e6 b6 hW6 k1 hx hy b5
  go_wp2_with fail
  rw [HW6.out]
  refine h2.mono ?_
  clear h2
  rintro e W7 ⟨rfl, b7⟩
  have h3 := un_three W7
  have HB7 := hid b7
  clear b7
  go_wp2_with fail
  refine h3.mono ?_
  clear h3
  rintro e W8 ⟨v3, rfl, l3, b8⟩
  obtain ⟨a3, c3, rfl, _, _, hx⟩ := l3
  obtain ⟨g3, o3, rfl, hy⟩ := hx (by simp)
  obtain ⟨q3, k3⟩ := hy 0 (by simp)
  have h58 : Below W5.heap.size W5 W8 := (HK1.out.2.2.trans (HB7.out.mono HK1.out.2.2.size)).trans (b8.mono (Nat.le_trans HK1.out.2.2.size HB7.out.size))
  have y1 := kc h58 HK1.out.1.lt HK1.out.1.c2
  have y3x := k3.c0
  have y3 : W8.cell? ⟨g3, o3, none⟩ = some (.int .i64 3) := by simpa using y3x
  have y1a : W8.cell? ⟨g1, o1 + 6, none⟩ = some (.string ⟨#[98]⟩) := y1
  have y1b : W8.cell? ⟨g1, o1 + 4 + 2, none⟩ = some (.string ⟨#[98]⟩) := y1
  have y1c : W8.cell? ⟨g1, o1 + 4 + 1 + 1, none⟩ = some (.string ⟨#[98]⟩) := y1
  have HE : Hid (Below w.heap.size w W8) := HK1.out.2.1.trans (h58.mono HK1.out.2.1.size)
  clear hx hy k3 b8 h58 y1 y3x
  go_wp2
  go_ret
  exact ⟨ret_bool (by simp), HE.out⟩

end Go.Proofs.Ytblfbmdnkgebdaa
