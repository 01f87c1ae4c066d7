/-
  Both indices hold the same: mathematics.
-/
import Derived.Test.YtiklbkkimmgbcaaGL
import Derived.Test.YtiklbkkimmgbcaaGI
import Derived.Test.YtiklbkkimmgbcaaGK
namespace Go.Proofs.Ytiklbkkimmgbcaa
open Go.RowKit Go.Maps

def absE (l : List En) : List (Int × Fp) := l.map fun x => (x.1, fpOf x.2.1)
theorem absE_len (l : List En) : (absE l).length = l.length := by simp [absE]
theorem absE_app (a b : List En) : absE (a ++ b) = absE a ++ absE b := by simp [absE]
theorem fitIds_abs (l : List En) (P : List Ft → Bool) : fitIds (absE l) P = finds P l := by
  induction l with
  | nil => rfl
  | cons x l ih =>
    simp only [fitIds, finds, absE, List.map_cons, List.filter_cons] at ih ⊢
    show List.map _ (if P (feats x.2.1) = true then _ else _) = _
    split
    · simp only [List.map_cons]; rw [ih]
    · exact ih
theorem fteq_ne {a b : Ft} (h : a ≠ b) : fteq a b = false := by simp [fteq, h]
theorem fteq_kind {a b : Ft} (h : a.kind ≠ b.kind) : fteq a b = false := fteq_ne fun e => h (by rw [e])
theorem fteq_comm (a b : Ft) : fteq a b = fteq b a := by
  by_cases h : a = b
  · rw [h]
  · rw [fteq_ne h, fteq_ne (Ne.symm h)]
theorem uniB_comm (a b : Ft) : uniB a b = uniB b a := by
  unfold uniB
  by_cases k : knownB a = true ∧ knownB b = true
  · rw [if_pos k, if_pos k.symm]
    obtain ⟨ka, kb⟩ := k
    simp only [knownB, Bool.and_eq_true, decide_eq_true_eq] at ka kb
    have ha : a.kind = 1 ∨ a.kind = 2 ∨ a.kind = 3 ∨ a.kind = 4 := by omega
    have hb : b.kind = 1 ∨ b.kind = 2 ∨ b.kind = 3 ∨ b.kind = 4 := by omega
    have h1 := fteq_comm a b
    have h2 : a.kind ≠ b.kind → fteq a b = false := fteq_kind
    have h3 : b.kind ≠ a.kind → fteq b a = false := fteq_kind
    rcases ha with ha | ha | ha | ha <;> rcases hb with hb | hb | hb | hb <;> simp [ha, hb] at h2 h3 ⊢ <;> first | exact h1 | exact h2 | exact h3
  · rw [if_neg k, if_neg (fun h => k h.symm)]
theorem fitB_comm (l m : List Ft) : fitB uniB l m = fitB uniB m l := by
  have h : ∀ (l m : List Ft), (l.zip m).all (fun p => uniB p.1 p.2) = (m.zip l).all (fun p => uniB p.1 p.2) := by
    intro l
    induction l with
    | nil => intro m; simp
    | cons a l ih =>
      intro m
      cases m with
      | nil => simp
      | cons b m => simp only [List.zip_cons_cons, List.all_cons]; rw [ih m, uniB_comm]
  unfold fitB
  rw [h l m, Bool.and_comm (decide (l.length = 4))]
def RiseE (l : List En) : Prop := (l.map (·.1)).Pairwise (· < ·)
theorem RiseE.abs {l : List En} (h : RiseE l) : Rise (absE l) := by
  unfold Rise
  have : (absE l).map (·.1) = l.map (·.1) := by simp [absE]
  rw [this]
  exact h
theorem look_abs_none {l : List En} {id : Int} (h : NoId l id) : look (absE l) id = none := by
  rw [look_none]
  intro p hp
  obtain ⟨x, hx, e⟩ := List.mem_map.1 hp
  exact h x hx (congrArg Prod.fst e)
theorem look_abs_some {l : List En} {id : Int} {x : En} (hr : RiseE l) (hx : x ∈ l) (h : x.1 = id) : look (absE l) id = some (fpOf x.2.1) :=
  mem_look hr.abs.ids (List.mem_map.2 ⟨x, hx, by rw [h]⟩)
theorem add_mid {A B : List (Int × Fp)} {z : Int} {p : Fp} (h : Ids (A ++ (z, p) :: B)) : Add (A ++ B) (A ++ (z, p) :: B) z p := by
  refine ⟨fun e => ?_, ?_, h, by simp; omega, fun q => ?_⟩
  · simp only [List.mem_append, List.mem_cons]
    constructor
    · rintro (h | h | h)
      · exact .inl (.inl h)
      · exact .inr h
      · exact .inl (.inr h)
    · rintro ((h | h) | h)
      · exact .inl h
      · exact .inr (.inr h)
      · exact .inr (.inl h)
  · rw [look_none]
    intro q hq
    unfold Ids at h
    rw [List.map_append, List.map_cons, List.nodup_append] at h
    obtain ⟨_, h2, h3⟩ := h
    rcases List.mem_append.1 hq with hq | hq
    · exact h3 z (List.mem_map.2 ⟨(z, q), hq, rfl⟩) z (by simp) rfl
    · exact (List.nodup_cons.1 h2).1 (List.mem_map.2 ⟨(z, q), hq, rfl⟩)
  · simp only [cntF, List.filter_append, List.filter_cons, List.filter_nil, List.length_append]
    split <;> simp <;> omega
theorem fold_true (e : En) : ∀ (l acc : List En), l.foldl (stE e) (acc, true) = (acc ++ l, true)
  | [], acc => by simp
  | x :: l, acc => by
    rw [List.foldl_cons, stE_neg (by simp), fold_true e l]
    simp
theorem fold_ins (e : En) : ∀ (l acc : List En), RiseE l → NoId l e.1 → ∃ A B, l = A ++ B ∧ (∀ x ∈ A, x.1 < e.1) ∧ (∀ x ∈ B, e.1 < x.1) ∧ (if (l.foldl (stE e) (acc, false)).2 then (l.foldl (stE e) (acc, false)).1 else (l.foldl (stE e) (acc, false)).1 ++ [e]) = acc ++ A ++ e :: B
  | [], acc, _, _ => ⟨[], [], rfl, by simp, by simp, by simp⟩
  | x :: l, acc, hr, hn => by
    have hr' := List.pairwise_cons.1 hr
    by_cases h : e.1 < x.1
    · refine ⟨[], x :: l, rfl, by simp, fun y hy => ?_, ?_⟩
      · rcases List.mem_cons.1 hy with rfl | hy
        · exact h
        · have h2 : x.1 < y.1 := hr'.1 y.1 (List.mem_map.2 ⟨y, hy, rfl⟩)
          omega
      · rw [List.foldl_cons, stE_pos ⟨rfl, h⟩, fold_true]
        simp
    · have hx : x.1 < e.1 := by have := hn x (by simp); omega
      obtain ⟨A, B, h1, h2, h3, h4⟩ := fold_ins e l (acc ++ [x]) hr'.2 (fun y hy => hn y (by simp [hy]))
      refine ⟨x :: A, B, by rw [h1]; rfl, fun y hy => ?_, h3, ?_⟩
      · rcases List.mem_cons.1 hy with rfl | hy
        · exact hx
        · exact h2 y hy
      · rw [List.foldl_cons, stE_neg (by simp; omega)]
        simpa using h4
theorem insE_eq {e : En} {l : List En} (hr : RiseE l) (hn : NoId l e.1) : ∃ A B, l = A ++ B ∧ (∀ x ∈ A, x.1 < e.1) ∧ (∀ x ∈ B, e.1 < x.1) ∧ insE e l = A ++ e :: B := by
  obtain ⟨A, B, h1, h2, h3, h4⟩ := fold_ins e l [] hr hn
  rw [List.nil_append] at h4
  refine ⟨A, B, h1, h2, h3, ?_⟩
  unfold insE insS
  exact h4
theorem insE_rise {e : En} {l : List En} (hr : RiseE l) (hn : NoId l e.1) : RiseE (insE e l) := by
  obtain ⟨A, B, rfl, h2, h3, h4⟩ := insE_eq hr hn
  rw [h4]
  unfold RiseE at hr ⊢
  simp only [List.map_append, List.map_cons] at hr ⊢
  rw [List.pairwise_append] at hr ⊢
  obtain ⟨p1, p2, p3⟩ := hr
  refine ⟨p1, List.pairwise_cons.2 ⟨fun y hy => ?_, p2⟩, fun a ha b hb => ?_⟩
  · obtain ⟨x, hx, rfl⟩ := List.mem_map.1 hy
    exact h3 x hx
  · rcases List.mem_cons.1 hb with rfl | hb
    · obtain ⟨x, hx, rfl⟩ := List.mem_map.1 ha
      exact h2 x hx
    · exact p3 a ha b hb
theorem insE_add {e : En} {l : List En} (hr : RiseE l) (hn : NoId l e.1) : Add (absE l) (absE (insE e l)) e.1 (fpOf e.2.1) := by
  have hi := (insE_rise hr hn).abs.ids
  obtain ⟨A, B, rfl, h2, h3, h4⟩ := insE_eq hr hn
  rw [h4] at hi ⊢
  rw [absE_app] at hi ⊢
  rw [absE_app]
  exact add_mid hi
theorem insE_mem {e : En} {l : List En} (hr : RiseE l) (hn : NoId l e.1) {x : En} (hx : x ∈ insE e l) : x = e ∨ x ∈ l := by
  obtain ⟨A, B, rfl, h2, h3, h4⟩ := insE_eq hr hn
  rw [h4] at hx
  rcases List.mem_append.1 hx with h | h
  · exact .inr (List.mem_append.2 (.inl h))
  · rcases List.mem_cons.1 h with h | h
    · exact .inl h
    · exact .inr (List.mem_append.2 (.inr h))
theorem insE_len {e : En} {l : List En} (hr : RiseE l) (hn : NoId l e.1) : (insE e l).length = l.length + 1 := by
  obtain ⟨A, B, rfl, h2, h3, h4⟩ := insE_eq hr hn
  rw [h4]
  simp
  omega
theorem split_at {l : List En} {i : Nat} {x : En} (h : l[i]? = some x) : l = l.take i ++ x :: l.drop (i + 1) := by
  obtain ⟨hi, hx⟩ := List.getElem?_eq_some_iff.1 h
  rw [← hx, List.getElem_cons_drop, List.take_append_drop]
theorem del_rise {l : List En} {i : Nat} {x : En} (hr : RiseE l) (h : l[i]? = some x) : RiseE (l.take i ++ l.drop (i + 1)) := by
  have e := split_at h
  refine List.Pairwise.sublist (List.Sublist.map _ ?_) hr
  conv => rhs; rw [e]
  exact List.Sublist.append_left (List.sublist_cons_self _ _) _
theorem del_add {l : List En} {i : Nat} {x : En} (hr : RiseE l) (h : l[i]? = some x) : Add (absE (l.take i ++ l.drop (i + 1))) (absE l) x.1 (fpOf x.2.1) := by
  have e := split_at h
  have hi := hr.abs.ids
  have e2 : absE l = absE (l.take i) ++ (x.1, fpOf x.2.1) :: absE (l.drop (i + 1)) := by
    conv => lhs; rw [e]
    rw [absE_app]; rfl
  rw [e2] at hi ⊢
  rw [absE_app]
  exact add_mid hi
theorem del_mem {l : List En} {i : Nat} {y : En} (h : y ∈ l.take i ++ l.drop (i + 1)) : y ∈ l := by
  rcases List.mem_append.1 h with h | h
  · exact List.mem_of_mem_take h
  · exact List.mem_of_mem_drop h

end Go.Proofs.Ytiklbkkimmgbcaa
