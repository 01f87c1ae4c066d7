/-
  A shifted term: as right, as great, as deep as it was, with the same features.
-/
import Derived.Test.YtiklbkkimmgbcaaHS
import Derived.Test.YtiklbkkimmgbcaaHA
namespace Go.Proofs.Ytiklbkkimmgbcaa
open Go.RowKit

theorem fineT_one {by_ : Int} {t : T} (h0 : t.fn.size = 0) (h : fineT by_ t = true) : fine by_ t.v = true := by
  unfold fineT at h
  rw [T.vs_eq, if_pos h0] at h
  simp at h
  exact h.1

theorem shift_all (by_ : Int) (t : T) : t.shape = true → fineT by_ t = true → (t.app (shf by_)).shape = true ∧ (t.app (shf by_)).size = t.size ∧ (t.app (shf by_)).depthW = t.depthW ∧ ∀ pl, feat (t.app (shf by_)) pl = feat t pl := by
  induction t using T.ind with
  | _ t ih =>
    intro hsh hfi
    by_cases h0 : t.fn.size = 0
    · have hf := fineT_one h0 hfi
      rw [T.shape_eq, if_pos h0] at hsh
      simp only [Bool.and_eq_true, decide_eq_true_eq] at hsh
      obtain ⟨⟨hv0, hv1⟩, ha⟩ := hsh
      have ha0 : t.args = [] := List.length_eq_zero_iff.1 ha
      unfold fine at hf
      simp at hf
      have hw : wrap64 (t.v + by_) = t.v + by_ := by unfold wrap64; omega
      have e : t.app (shf by_) = .mk (t.v + by_) ⟨#[]⟩ [] := by rw [T.app_eq, if_pos h0]; unfold shf var; rw [hw]
      rw [e]
      refine ⟨?_, ?_, ?_, fun pl => ?_⟩
      · rw [T.shape_eq]
        show (if (⟨#[]⟩ : ByteArray).size = 0 then _ else _) = true
        rw [if_pos (show (⟨#[]⟩ : ByteArray).size = 0 from rfl)]
        simp only [Bool.and_eq_true, decide_eq_true_eq]
        exact ⟨⟨by show 0 ≤ t.v + by_; omega, by show t.v + by_ < 1000000; omega⟩, rfl⟩
      · rw [T.size_eq, T.size_eq t, ha0]; rfl
      · rw [T.depthW_eq, T.depthW_eq t, ha0]; rfl
      · cases pl with
        | nil =>
          unfold feat
          rw [if_pos h0]
          exact if_pos rfl
        | cons k ks =>
          unfold feat
          rw [if_pos h0]
          exact if_pos rfl
    · rw [T.shape_eq, if_neg h0] at hsh
      simp only [Bool.and_eq_true, decide_eq_true_eq, List.all_eq_true] at hsh
      obtain ⟨⟨⟨hv, hf64⟩, ha16⟩, hall⟩ := hsh
      have hfa : ∀ x ∈ t.args, fineT by_ x = true := by
        have := hfi
        rw [fineT_fn h0] at this
        exact List.all_eq_true.1 this
      have e : t.app (shf by_) = .mk 0 t.fn (t.args.map (T.app (shf by_))) := by rw [T.app_eq, if_neg h0]
      have ih' := fun x hx => ih x hx (hall x hx) (hfa x hx)
      rw [e]
      refine ⟨?_, ?_, ?_, fun pl => ?_⟩
      · rw [T.shape_eq]
        show (if t.fn.size = 0 then _ else _) = true
        rw [if_neg h0]
        simp only [Bool.and_eq_true, decide_eq_true_eq, List.all_eq_true]
        refine ⟨⟨⟨rfl, hf64⟩, by show (t.args.map _).length ≤ 16; rw [List.length_map]; exact ha16⟩, fun y hy => ?_⟩
        obtain ⟨x, hx, rfl⟩ := List.mem_map.1 hy
        exact (ih' x hx).1
      · rw [T.size_eq, T.size_eq t]
        show 1 + ((t.args.map (T.app (shf by_))).map T.size).sum = _
        rw [List.map_map]
        congr 2
        exact List.map_congr_left fun x hx => (ih' x hx).2.1
      · rw [T.depthW_eq, T.depthW_eq t]
        show wrap64 (((t.args.map (T.app (shf by_))).map T.depthW).foldl max 0 + 1) = _
        rw [List.map_map]
        congr 3
        exact List.map_congr_left fun x hx => (ih' x hx).2.2.1
      · cases pl with
        | nil =>
          unfold feat
          show (if t.fn.size = 0 then _ else (⟨1, ((t.args.map (T.app (shf by_))).length : Int), t.fn⟩ : Ft)) = _
          rw [if_neg h0, if_neg h0, List.length_map]
        | cons k ks =>
          unfold feat
          rw [if_neg h0]
          show (if t.fn.size = 0 then _ else (if h : k < (t.args.map (T.app (shf by_))).length then feat (t.args.map (T.app (shf by_)))[k] ks else _)) = _
          rw [if_neg h0]
          by_cases hk : k < t.args.length
          · rw [dif_pos (by rw [List.length_map]; exact hk), dif_pos hk, List.getElem_map]
            exact (ih' t.args[k] (List.getElem_mem hk)).2.2.2 ks
          · rw [dif_neg (by rw [List.length_map]; exact hk), dif_neg hk]

theorem shift_right {by_ : Int} {t : T} (hr : t.rightW = 0) (hs : t.shape = true) (hf : fineT by_ t = true) : (t.app (shf by_)).rightW = 0 ∧ (t.app (shf by_)).size = t.size ∧ feats (t.app (shf by_)) = feats t := by
  obtain ⟨h1, h2, h3, h4⟩ := shift_all by_ t hs hf
  refine ⟨?_, h2, ?_⟩
  · unfold T.rightW at hr ⊢
    rw [h1, h2, h3]
    rw [hs] at hr
    exact hr
  · unfold feats
    simp [h4]

end Go.Proofs.Ytiklbkkimmgbcaa
