/-
  The chapter's examples: Apply([0: f(X1)], g(X0)), Compose([0: X1], [1: a]).
-/
import Derived.Test.YthinbkpjggihdaaSR
namespace Go.Proofs.Ythinbkpjggihdaa
open Go.RowKit

def tF : T := .mk 0 ⟨#[102]⟩ [var 1]
def tG : T := .mk 0 ⟨#[103]⟩ [var 0]
def tA : T := .mk 0 ⟨#[97]⟩ []
def tGF : T := .mk 0 ⟨#[103]⟩ [tF]

theorem sz1 (b : UInt8) : (⟨#[b]⟩ : ByteArray).size = 1 := rfl
theorem sz0 : (⟨#[]⟩ : ByteArray).size = 0 := rfl

theorem var_shape (n : Int) (h0 : 0 ≤ n) (h1 : n < 1000000) : (var n).shape = true := by
  rw [T.shape_eq, if_pos (var_fn n)]
  simp [var, T.v, T.args, h0, h1]

theorem short_small (t : T) (h : ∀ q ∈ t.parts [], q.1.length ≤ 1048576) : Short t := h

theorem var_short (n : Int) : Short (var n) := by
  intro q hq
  rw [T.parts_eq] at hq
  simp [var, T.args, T.parts.kids] at hq
  subst hq
  simp

theorem tA_rt : Rt tA := by
  refine ⟨?_, ?_, ?_, ?_⟩
  · rw [T.shape_eq, if_neg (by decide)]; decide
  · rw [T.size_eq]; simp [tA, T.args]
  · rw [T.depth_eq]; simp [tA, T.args]
  · intro q hq
    rw [T.parts_eq] at hq
    simp [tA, T.args, T.parts.kids] at hq
    subst hq
    simp

theorem one_rt (fn : ByteArray) (n : Int) (hf : fn.size = 1) (h0 : 0 ≤ n) (h1 : n < 1000000) : Rt (.mk 0 fn [var n]) := by
  have hne : (T.mk 0 fn [var n]).fn.size ≠ 0 := by show fn.size ≠ 0; omega
  refine ⟨?_, ?_, ?_, ?_⟩
  · rw [T.shape_eq, if_neg hne]
    simp [T.v, T.fn, T.args, hf, var_shape n h0 h1]
  · rw [T.size_eq]
    simp [T.args, (var_size n).1]
  · rw [T.depth_eq]
    simp [T.args, (var_size n).2]
    decide
  · intro q hq
    rw [T.parts_eq] at hq
    simp only [T.args, T.parts.kids, List.append_nil, List.mem_cons] at hq
    rcases hq with rfl | hq
    · simp
    · rw [T.parts_eq] at hq
      simp [var, T.args, T.parts.kids] at hq
      subst hq
      simp

theorem Rt.right {t : T} (h : Rt t) : t.rightW = 0 := by
  unfold T.rightW
  have hd : t.depthW = t.depth := depthW_small t (by have := h.depth; omega)
  rw [if_neg (by rw [h.shape]; simp), if_neg (by rw [hd]; have := h.depth; omega), if_neg (by rw [h.wsize]; have := h.size; omega)]

theorem one_sub (n : Int) (t : T) (h0 : 0 ≤ n) (h1 : n < 1000000) (ht : Rt t) (ho : own1 (n, t) = false) : Sb [(n, t)] := by
  refine ⟨⟨by simp, fun j hj => ?_⟩, fun x hx => ?_⟩
  · have : j = 0 := by simpa using hj
    subst this
    exact okb_true (by show (-1 : Int) < n; omega) h1 ho ht.right
  · simp at hx
    subst hx
    exact ht

theorem img_one (n : Int) (t : T) : img [(n, t)] n = t := by unfold img; simp
theorem img_other (n m : Int) (t : T) (h : n ≠ m) : img [(n, t)] m = var m := by unfold img; simp [h]

theorem app_GF : tG.app (img [(0, tF)]) = tGF := by
  rw [T.app_eq, if_neg (by decide)]
  show T.mk 0 ⟨#[103]⟩ [(var 0).app (img [(0, tF)])] = tGF
  rw [var_app, img_one]
  rfl

theorem fit_GF : fitsW tGF = 0 := by
  have h1 : tGF.depth = 3 := by
    rw [T.depth_eq]
    show ([tF].map T.depth).foldl max 0 + 1 = 3
    have : tF.depth = 2 := by rw [T.depth_eq]; show ([var 1].map T.depth).foldl max 0 + 1 = 2; (simp [(var_size 1).2]; decide)
    simp [this]
    decide
  have h2 : tGF.size = 3 := by
    rw [T.size_eq]
    show 1 + ([tF].map T.size).sum = 3
    have : tF.size = 2 := by rw [T.size_eq]; show 1 + ([var 1].map T.size).sum = 2; simp [(var_size 1).1]
    simp [this]
  unfold fitsW
  rw [h1, h2]
  rfl

theorem fit_A : fitsW tA = 0 := by
  unfold fitsW
  have h1 := tA_rt.depth
  have h2 := tA_rt.size
  rw [if_neg (by omega), if_neg (by omega)]

theorem tA_app (σ : Int → T) : tA.app σ = tA := by rw [T.app_eq, if_neg (by decide)]; rfl

theorem joined_ex : joined [(0, var 1)] [(1, tA)] = [(0, tA), (1, tA)] := by
  have h1 : lastB [(1, tA)] (0, var 1) = true := by
    unfold lastB
    rw [show img [(1, tA)] (var 1).v = tA from img_one 1 tA]
    decide
  have h2 : boundB [(0, var 1)] 1 = false := by
    unfold boundB
    simp only [decide_eq_false_iff_not]
    rintro ⟨k, hk, e⟩
    have : k = 0 := by simpa using hk
    subst this
    simp at e
  unfold joined
  simp only [List.filter_cons, h1, if_true, List.filter_nil, h2, Bool.not_false, List.map_cons, List.map_nil, List.cons_append, List.nil_append]
  rw [var_app, img_one, tA_app]

theorem rising_ex : Rising [((0 : Int), tA), (1, tA)] := by
  intro i j hj hij
  have hj' : j < 2 := by simpa using hj
  have h1 : j = 1 := by omega
  have h0 : i = 0 := by omega
  subst h1
  subst h0
  simp

theorem args_one {W : World} {b : Nat} {v : Int} {fn : ByteArray} (h : W.heap[b]? = some (.cells #[.int .i64 v, .string fn, .slice none 0 0] 25 (0, 0))) : ArgsAt W (.slice (some ⟨b, 0, none⟩) 1 1) [.mk v fn []] := by
  obtain ⟨⟨c0, c1, c2⟩, _⟩ := box_facts h
  refine .mk (some ⟨b, 0, none⟩) 1 [.mk v fn []] (fun _ => .slice none 0 0) (Nat.le_refl _) (by decide) (fun _ => ⟨b, 0, (Array.getElem?_eq_some_iff.1 h).1, rfl, fun i hi => ?_⟩) (fun i hi => ?_)
  · have : i = 0 := by simpa using hi
    subst this
    exact ⟨c0, c1, c2⟩
  · have : i = 0 := by simpa using hi
    subst this
    exact (ArgsFr.nil 0 W).args

theorem binds_one {W : World} {b : Nat} {n v : Int} {fn : ByteArray} {s : Value} {args : List T} (h : W.heap[b]? = some (.cells #[.int .i64 n, .int .i64 v, .string fn, s] 35 (0, 0))) (ha : ArgsAt W s args) : BindsAt W (.slice (some ⟨b, 0, none⟩) 1 1) [(n, .mk v fn args)] := by
  refine ⟨some ⟨b, 0, none⟩, 1, rfl, Nat.le_refl _, by decide, fun _ => ⟨b, 0, rfl, fun i hi => ?_⟩⟩
  have : i = 0 := by simpa using hi
  subst this
  refine ⟨s, (Array.getElem?_eq_some_iff.1 h).1, ?_, ?_, ?_, ?_, ha⟩ <;> rw [cell_of_row _ _ _ _ 35 (0, 0) h] <;> rfl

theorem apply_ex (w : World) (A0 A1 A2 : Nat) (h0 : w.heap[A0]? = some (.cells #[.int .i64 1, .string ⟨#[]⟩, .slice none 0 0] 25 (0, 0))) (h1 : w.heap[A1]? = some (.cells #[.int .i64 0, .int .i64 0, .string ⟨#[102]⟩, .slice (some ⟨A0, 0, none⟩) 1 1] 35 (0, 0))) (h2 : w.heap[A2]? = some (.cells #[.int .i64 0, .string ⟨#[]⟩, .slice none 0 0] 25 (0, 0))) :
    Calls Try.prog 11 #[.slice (some ⟨A1, 0, none⟩) 1 1, .agg #[.int .i64 0, .string ⟨#[103]⟩, .slice (some ⟨A2, 0, none⟩) 1 1]] w fun e W' => ∃ b o pc, e = .returned (.tuple #[.agg #[.int .i64 0, .string ⟨#[103]⟩, .slice (some ⟨b, o, none⟩) 1 pc], .int .i64 0]) ∧ b < W'.heap.size ∧ W'.cell? ⟨b, o + 1, none⟩ = some (.string ⟨#[102]⟩) ∧ 1 ≤ pc ∧ Below w.heap.size w W' := by
  have hl : Sb [((0 : Int), tF)] := one_sub 0 tF (by omega) (by omega) (one_rt _ 1 rfl (by omega) (by omega)) (by decide)
  have ht : Rt tG := one_rt _ 0 rfl (by omega) (by omega)
  refine (apply_ok [(0, tF)] hl tG ht ht.right (by rw [app_GF]; exact fit_GF) _ (.slice (some ⟨A2, 0, none⟩) 1 1) w (binds_one h1 (args_one h0)) (args_one h2)).mono ?_
  rintro e W' ⟨sl, he, ha, hb⟩
  rw [app_GF] at he ha
  obtain ⟨pa, pc, hs, hpc, _⟩ := ha.slice
  have hs' : sl = .slice pa 1 pc := hs
  subst hs'
  have hpc' : 1 ≤ pc := hpc
  obtain ⟨b, o, s, e1, hlt, c0, c1, c2, _⟩ := ha.nth (i := 0) (by decide)
  subst e1
  exact ⟨b, o, pc, he, hlt, c1, hpc', hb⟩

theorem compose_ex (w : World) (A1 A2 : Nat) (h1 : w.heap[A1]? = some (.cells #[.int .i64 0, .int .i64 1, .string ⟨#[]⟩, .slice none 0 0] 35 (0, 0))) (h2 : w.heap[A2]? = some (.cells #[.int .i64 1, .int .i64 0, .string ⟨#[97]⟩, .slice none 0 0] 35 (0, 0))) :
    Calls Try.prog 16 #[.slice (some ⟨A1, 0, none⟩) 1 1, .slice (some ⟨A2, 0, none⟩) 1 1] w fun e W' => ∃ b o pc, e = .returned (.tuple #[.slice (some ⟨b, o, none⟩) 2 pc, .int .i64 0]) ∧ W'.cell? ⟨b, o + 2, none⟩ = some (.string ⟨#[97]⟩) ∧ Below w.heap.size w W' := by
  have hv : Rt (var 1) := ⟨var_shape 1 (by omega) (by omega), by rw [(var_size 1).1]; omega, by rw [(var_size 1).2]; omega, var_short 1⟩
  have hs : Sb [((0 : Int), var 1)] := one_sub 0 (var 1) (by omega) (by omega) hv (by decide)
  have hr : Sb [((1 : Int), tA)] := one_sub 1 tA (by omega) (by omega) tA_rt (by decide)
  refine (compose_ok [(0, var 1)] [(1, tA)] hs hr (fun x hx => by simp at hx; subst hx; show fitsW ((var 1).app _) = 0; rw [var_app, img_one]; exact fit_A) (by rw [joined_ex]; decide) (by rw [joined_ex]; exact rising_ex) _ _ w (binds_one h1 (ArgsFr.nil 0 w).args) (binds_one h2 (ArgsFr.nil 0 w).args)).mono ?_
  rintro e W' ⟨v', he, hB, hb⟩
  rw [joined_ex] at hB
  obtain ⟨pa, pc, rfl⟩ := hB.slice
  obtain ⟨b, o, s, e1, hX⟩ := hB.nth (i := 0) (by decide)
  subst e1
  exact ⟨b, o, pc, he, by have := hX.c2; simpa [tA, T.fn] using this, hb⟩

end Go.Proofs.Ythinbkpjggihdaa
