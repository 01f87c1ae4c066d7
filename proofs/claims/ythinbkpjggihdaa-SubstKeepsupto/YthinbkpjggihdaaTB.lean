/-
  What is put is right where it fits; Apply and the document's Apply.
-/
import Derived.Test.YthinbkpjggihdaaTA
import Derived.Test.YthinbkpjggihdaaSS
import Derived.Test.YthinbkpjggihdaaRB
namespace Go.Proofs.Ythinbkpjggihdaa
open Go.RowKit

theorem app_shape (σ : Int → T) (hσ : ∀ n, 0 ≤ n → n < 1000000 → (σ n).shape = true) (t : T) : t.shape = true → (t.app σ).shape = true := by
  induction t using T.ind with
  | _ t ih =>
    intro hs
    rw [T.app_eq]
    rw [T.shape_eq] at hs
    by_cases h0 : t.fn.size = 0
    · rw [if_pos h0] at hs ⊢
      simp only [Bool.and_eq_true, decide_eq_true_eq] at hs
      exact hσ _ hs.1.1 hs.1.2
    · rw [if_neg h0] at hs ⊢
      simp only [Bool.and_eq_true, decide_eq_true_eq, List.all_eq_true] at hs
      rw [T.shape_eq, if_neg (show ¬ (T.mk 0 t.fn (t.args.map (T.app σ))).fn.size = 0 from h0)]
      simp only [Bool.and_eq_true, decide_eq_true_eq, List.all_eq_true]
      refine ⟨⟨⟨rfl, hs.1.1.2⟩, by simpa [T.args] using hs.1.2⟩, fun x hx => ?_⟩
      obtain ⟨y, hy, rfl⟩ := List.mem_map.1 hx
      exact ih y hy (hs.2 y hy)

theorem wrap_small {n : Int} (h0 : 0 ≤ n) (h1 : n ≤ 1000000000) : wrap64 n = n := by
  unfold wrap64
  omega

theorem right_fits {u : T} (hs : u.shape = true) (hz : u.size ≤ 16000000) : u.rightW = fitsW u := by
  have h1 := size_pos u
  have h2 := depth_le_size u
  unfold T.rightW fitsW
  rw [if_neg (by rw [hs]; decide), depthW_small u (by omega), wrap_small (by omega) (by omega)]

theorem rt_of {t : T} (h : t.rightW = 0) (hz : t.size ≤ 1048576) : Rt t := by
  have h1 := size_pos t
  have h2 := depth_le_size t
  have hs := right_shape h
  have hf := right_fits hs (by omega)
  rw [h] at hf
  unfold fitsW at hf
  refine ⟨hs, ?_, ?_, (short_of t hz).1⟩
  · by_cases hd : 60 < t.depth
    · rw [if_pos hd] at hf; omega
    · rw [if_neg hd] at hf
      by_cases hx : 4000 < t.size
      · rw [if_pos hx] at hf; omega
      · omega
  · by_cases hd : 60 < t.depth
    · rw [if_pos hd] at hf; omega
    · omega

theorem img_shape {l : List Bd} (h : IsSub l) (n : Int) (h0 : 0 ≤ n) (h1 : n < 1000000) : (img l n).shape = true := by
  rcases img_mem l n with e | ⟨x, hx, e⟩
  · rw [e]; exact var_shape n h0 h1
  · rw [e]; exact right_shape (h.right x hx)

/-- Both Apply answer alike. -/
theorem both_apply (l : List Bd) (t : T) (hlz : ∀ x ∈ l, x.2.size ≤ 1048576) (htz : t.size ≤ 1048576) (v sl : Value) (w : World) (hb : BindsAt w v l) (ha : ArgsAt w sl t.args) : ∃ r f,
    (∀ W, Below w.heap.size w W → Calls Try.prog 11 #[v, tval t sl] W fun e W' => ∃ s5, e = .returned (.tuple #[tval r s5, .int .i64 f]) ∧ ArgsAt W' s5 r.args ∧ Below W.heap.size W W') ∧
    (∀ W, Below w.heap.size w W → Calls Try.prog 12 #[v, tval t sl] W fun e W' => ∃ s5, e = .returned (.tuple #[tval r s5, .int .i64 f]) ∧ ArgsAt W' s5 r.args ∧ Below W.heap.size W W') := by
  by_cases hno : isSub l = false ∨ t.rightW ≠ 0
  · refine ⟨zt, 1, fun W hW => ?_, fun W hW => ?_⟩
    · exact (apply_arg l (fun x hx => (short_of _ (hlz x hx)).1) t (short_of _ htz).1 hno v sl W (hb.keep hW) (ArgsAt.keep hW (Nat.le_refl _) ha)).mono fun e W' ⟨he, h⟩ => ⟨_, he, (ArgsFr.nil 0 _).args, h⟩
    · exact (rapply_arg l t hno v sl W (hb.keep hW) (ArgsAt.keep hW (Nat.le_refl _) ha)).mono fun e W' ⟨he, h⟩ => ⟨_, he, (ArgsFr.nil 0 _).args, h⟩
  · have h1 : isSub l = true := by
      cases e : isSub l
      · exact absurd (.inl e) hno
      · rfl
    have h2 : t.rightW = 0 := Classical.byContradiction fun h => hno (.inr h)
    have hI := isSub_iff.1 h1
    have hSb : Sb l := ⟨hI, fun x hx => rt_of (hI.right x hx) (hlz x hx)⟩
    have hRt := rt_of h2 htz
    have hfw : (t.app (img l)).rightW = fitsW (t.app (img l)) := right_fits (app_shape _ (img_shape hI) t hRt.shape) (by
      have := app_size (img l) (img_size l hSb.rt) t
      have := hRt.size
      omega)
    by_cases hf : fitsW (t.app (img l)) = 0
    · refine ⟨t.app (img l), 0, fun W hW => ?_, fun W hW => ?_⟩
      · exact apply_ok l hSb t hRt h2 hf v sl W (hb.keep hW) (ArgsAt.keep hW (Nat.le_refl _) ha)
      · refine (rapply_ok l t h1 h2 v sl W (hb.keep hW) (ArgsAt.keep hW (Nat.le_refl _) ha)).mono fun e W' ⟨r, s5, he, hr, hA, h⟩ => ?_
        rw [hfw, hf] at he hr
        rw [if_pos rfl] at hr
        subst hr
        exact ⟨s5, he, hA, h⟩
    · refine ⟨zt, fitsW (t.app (img l)), fun W hW => ?_, fun W hW => ?_⟩
      · exact (apply_big l hSb t hRt h2 hf v sl W (hb.keep hW) (ArgsAt.keep hW (Nat.le_refl _) ha)).mono fun e W' ⟨he, h⟩ => ⟨_, he, (ArgsFr.nil 0 _).args, h⟩
      · refine (rapply_ok l t h1 h2 v sl W (hb.keep hW) (ArgsAt.keep hW (Nat.le_refl _) ha)).mono fun e W' ⟨r, s5, he, hr, hA, h⟩ => ?_
        rw [hfw] at he hr
        rw [if_neg hf] at hr
        subst hr
        exact ⟨s5, he, hA, h⟩

end Go.Proofs.Ythinbkpjggihdaa
