/-
  What told comes to is what a comparison comes to: plain mathematics.
-/
import Derived.Test.YtcnodgjalkcgiaaKO
namespace Go.Proofs.Ytcnodgjalkcgiaa
open Go.RowKit

theorem fe_vle {x y : T} (hs : ∀ v, v < 0 ∨ 1000000 ≤ v → cdif x y v = 0) : 0 < fe (cdif x y) ↔ ¬ vle y x := by
  rw [fe_pos hs]
  unfold vle cdif
  constructor
  · rintro ⟨v, h⟩ k
    have := k v
    omega
  · intro h
    refine Classical.byContradiction fun k => h fun v => ?_
    refine Classical.byContradiction fun k2 => k ⟨v, ?_⟩
    omega
theorem mo_vle {x y : T} (hs : ∀ v, v < 0 ∨ 1000000 ≤ v → cdif x y v = 0) : 0 < mo (cdif x y) ↔ ¬ vle x y := by
  rw [mo_pos hs]
  unfold vle cdif
  constructor
  · rintro ⟨v, h⟩ k
    have := k v
    omega
  · intro h
    refine Classical.byContradiction fun k => h fun v => ?_
    refine Classical.byContradiction fun k2 => k ⟨v, ?_⟩
    omega

theorem argsV_one (g : Sg) : ∀ l m : List T, argsV g l m = 1 ↔ gr.grs g l m
  | [], [] => by simp [argsV, gr.grs]
  | [], _ :: _ => by simp [argsV, gr.grs]
  | _ :: _, [] => by simp [argsV, gr.grs]
  | a :: r, b :: s => by
    simp only [argsV, gr.grs]
    by_cases e : a = b
    · rw [if_pos e, argsV_one g r s]
      simp [e]
    · rw [if_neg e, kcmp_gr]
      simp [e]
theorem argsV_neg (g : Sg) : ∀ l m : List T, argsV g l m = -1 ↔ gr.grs g m l
  | [], [] => by simp [argsV, gr.grs]
  | [], _ :: _ => by simp [argsV, gr.grs]
  | _ :: _, [] => by simp [argsV, gr.grs]
  | a :: r, b :: s => by
    simp only [argsV, gr.grs]
    by_cases e : a = b
    · rw [if_pos e, argsV_neg g r s]
      simp [e]
    · have e' : ¬ b = a := fun h => e h.symm
      rw [if_neg e, kcmp_ls]
      simp [e']
theorem argsV_zero (g : Sg) : ∀ l m : List T, l.length = m.length → argsV g l m = 0 → l = m
  | [], [], _, _ => rfl
  | [], _ :: _, h, _ => by simp at h
  | _ :: _, [], h, _ => by simp at h
  | a :: r, b :: s, h, k => by
    simp only [argsV] at k
    by_cases e : a = b
    · rw [if_pos e] at k
      rw [e, argsV_zero g r s (by simpa using h) k]
    · rw [if_neg e] at k
      exact absurd (kcmp_zero.1 k) e
theorem argsV_rng (g : Sg) : ∀ l m : List T, argsV g l m = 0 ∨ argsV g l m = 1 ∨ argsV g l m = -1 ∨ argsV g l m = 2
  | [], [] => .inl rfl
  | [], _ :: _ => .inl rfl
  | _ :: _, [] => .inl rfl
  | a :: r, b :: s => by
    simp only [argsV]
    split
    · exact argsV_rng g r s
    · exact kcmp_rng g a b

/-- Where the weights are not the same. -/
theorem told_wt {g : Sg} {x y : T} {o : Int} (hs : ∀ v, v < 0 ∨ 1000000 ≤ v → cdif x y v = 0) (h : x.wt g ≠ y.wt g) : toldV o (x.wt g - y.wt g) (mo (cdif x y)) (fe (cdif x y)) = kcmp g x y := by
  have hne : x ≠ y := fun e => h (by rw [e])
  have hF := fe_vle hs
  have hM := mo_vle hs
  unfold toldV ordV
  rw [if_neg (show ¬ x.wt g - y.wt g = 0 by omega)]
  by_cases hp : y.wt g < x.wt g
  · have e : cI (x.wt g - y.wt g) 0 = 1 := by unfold cI Lib.compareInt; rw [if_neg (by omega), if_pos (by omega)]
    rw [e]
    have hyx : ¬ gr g y x := fun k => by
      rcases ((gr_eq g y x).1 k).2 with k | ⟨k, _⟩ <;> omega
    by_cases hf : 0 < fe (cdif x y)
    · rw [if_pos (.inl ⟨rfl, hf⟩)]
      exact (kcmp_none hne (fun k => hF.1 hf ((gr_eq g x y).1 k).1) hyx).symm
    · rw [if_neg (by omega)]
      exact (kcmp_gr.2 ((gr_eq g x y).2 ⟨Classical.byContradiction fun k => hf (hF.2 k), .inl hp⟩)).symm
  · have e : cI (x.wt g - y.wt g) 0 = -1 := by unfold cI Lib.compareInt; rw [if_pos (by omega)]
    rw [e]
    have hxy : ¬ gr g x y := fun k => by
      rcases ((gr_eq g x y).1 k).2 with k | ⟨k, _⟩ <;> omega
    by_cases hf : 0 < mo (cdif x y)
    · rw [if_pos (.inr ⟨rfl, hf⟩)]
      exact (kcmp_none hne hxy (fun k => hM.1 hf ((gr_eq g y x).1 k).1)).symm
    · rw [if_neg (by omega)]
      exact (kcmp_ls.2 ((gr_eq g y x).2 ⟨Classical.byContradiction fun k => hf (hM.2 k), .inl (by omega)⟩)).symm

/-- Where they are the same: what remains. -/
theorem told_tie {g : Sg} {x y : T} {o : Int} (hs : ∀ v, v < 0 ∨ 1000000 ≤ v → cdif x y v = 0) (h : x.wt g = y.wt g)
    (h0 : o = 0 → x = y) (h1 : o = 1 → (vle y x → gr g x y) ∧ ¬ gr g y x ∧ x ≠ y) (h2 : o = -1 → (vle x y → gr g y x) ∧ ¬ gr g x y ∧ x ≠ y) (h3 : o = 2 → x ≠ y ∧ ¬ gr g x y ∧ ¬ gr g y x) (hr : o = 0 ∨ o = 1 ∨ o = -1 ∨ o = 2) :
    toldV o (x.wt g - y.wt g) (mo (cdif x y)) (fe (cdif x y)) = kcmp g x y := by
  have hF := fe_vle hs
  have hM := mo_vle hs
  unfold toldV ordV
  rw [if_pos (show x.wt g - y.wt g = 0 by omega)]
  rcases hr with rfl | rfl | rfl | rfl
  · rw [if_neg (by omega)]
    exact (kcmp_zero.2 (h0 rfl)).symm
  · obtain ⟨k1, k2, k3⟩ := h1 rfl
    by_cases hf : 0 < fe (cdif x y)
    · rw [if_pos (.inl ⟨rfl, hf⟩)]
      exact (kcmp_none k3 (fun k => hF.1 hf ((gr_eq g x y).1 k).1) k2).symm
    · rw [if_neg (by omega)]
      exact (kcmp_gr.2 (k1 (Classical.byContradiction fun k => hf (hF.2 k)))).symm
  · obtain ⟨k1, k2, k3⟩ := h2 rfl
    by_cases hf : 0 < mo (cdif x y)
    · rw [if_pos (.inr ⟨rfl, hf⟩)]
      exact (kcmp_none k3 k2 (fun k => hM.1 hf ((gr_eq g y x).1 k).1)).symm
    · rw [if_neg (by omega)]
      exact (kcmp_ls.2 (k1 (Classical.byContradiction fun k => hf (hM.2 k)))).symm
  · obtain ⟨k1, k2, k3⟩ := h3 rfl
    rw [if_neg (by omega)]
    exact (kcmp_none k1 k2 k3).symm

theorem sym_asymm {g : Sg} {a b : ByteArray} {k l : Nat} (h : g.sym a b k l) : ¬ g.sym b a l k := fun h' => sym_irrefl g a k (sym_trans h h')
theorem sym_ne {g : Sg} {a b : ByteArray} {k l : Nat} (h : g.sym a b k l) : ¬ (a = b ∧ k = l) := fun ⟨e1, e2⟩ => by
  subst e1 e2
  exact sym_irrefl g a k h

theorem told_heads {g : Sg} {x y : T} (hx : x.shape = true) (hy : y.shape = true) (hs : ∀ v, v < 0 ∨ 1000000 ≤ v → cdif x y v = 0) (hd : x.fn.size = 0 ∨ y.fn.size = 0 ∨ x.fn ≠ y.fn ∨ x.args.length ≠ y.args.length) :
    toldV (headsV g x y) (x.wt g - y.wt g) (mo (cdif x y)) (fe (cdif x y)) = kcmp g x y := by
  by_cases hw : x.wt g = y.wt g
  · unfold headsV
    by_cases c1 : x.fn.size = 0 ∧ y.fn.size = 0 ∧ x.v = y.v
    · rw [if_pos c1]
      refine told_tie hs hw (fun _ => ?_) (fun h => by omega) (fun h => by omega) (fun h => by omega) (.inl rfl)
      rcases shape_cases hx with ⟨_, _, _, ha⟩ | ⟨h, _⟩
      · rcases shape_cases hy with ⟨_, _, _, hb⟩ | ⟨h, _⟩
        · exact same_ext c1.2.2 (by rw [ba_empty.1 c1.1, ba_empty.1 c1.2.1]) (by rw [ha, hb])
        · exact absurd c1.2.1 h
      · exact absurd c1.1 h
    · rw [if_neg c1]
      by_cases c2 : x.fn.size = 0 ∨ y.fn.size = 0
      · rw [if_pos c2]
        refine told_tie hs hw (fun h => by omega) (fun h => by omega) (fun h => by omega) (fun _ => ⟨fun e => c1 ?_, fun k => ?_, fun k => ?_⟩) (.inr (.inr (.inr rfl)))
        · subst e
          exact ⟨c2.elim id id, c2.elim id id, rfl⟩
        · rcases ((gr_eq g x y).1 k).2 with k | ⟨_, k1, k2, _⟩
          · omega
          · exact c2.elim k1 k2
        · rcases ((gr_eq g y x).1 k).2 with k | ⟨_, k1, k2, _⟩
          · omega
          · exact c2.elim k2 k1
      · rw [if_neg c2]
        have n1 : x.fn.size ≠ 0 := fun h => c2 (.inl h)
        have n2 : y.fn.size ≠ 0 := fun h => c2 (.inr h)
        have hd' : x.fn ≠ y.fn ∨ x.args.length ≠ y.args.length := by
          rcases hd with h | h | h
          · exact absurd h n1
          · exact absurd h n2
          · exact h
        have hne : x ≠ y := fun e => by subst e; rcases hd' with h | h <;> exact h rfl
        have no : ∀ a b : T, a.wt g = b.wt g → g.sym a.fn b.fn a.args.length b.args.length → ¬ gr g b a := fun a b hab h k => by
          rcases ((gr_eq g b a).1 k).2 with k | ⟨_, _, _, k | ⟨k1, k2, _⟩⟩
          · omega
          · exact sym_asymm h k
          · exact sym_ne h ⟨k1.symm, k2.symm⟩
        by_cases c3 : g.above x.fn y.fn = true ∨ (x.fn = y.fn ∧ y.args.length < x.args.length)
        · rw [if_pos c3]
          have c3' : g.sym x.fn y.fn x.args.length y.args.length := c3
          exact told_tie hs hw (fun h => by omega) (fun _ => ⟨fun hv => (gr_eq g x y).2 ⟨hv, .inr ⟨hw, n1, n2, .inl c3'⟩⟩, no x y hw c3', hne⟩) (fun h => by omega) (fun h => by omega) (.inr (.inl rfl))
        · rw [if_neg c3]
          have c3' : g.sym y.fn x.fn y.args.length x.args.length := by
            rcases sym_total g hd' with h | h
            · exact absurd h c3
            · exact h
          exact told_tie hs hw (fun h => by omega) (fun h => by omega) (fun _ => ⟨fun hv => (gr_eq g y x).2 ⟨hv, .inr ⟨hw.symm, n2, n1, .inl c3'⟩⟩, no y x hw.symm c3', hne⟩) (fun h => by omega) (.inr (.inr (.inl rfl)))
  · exact told_wt hs hw

theorem told_args {g : Sg} {x y : T} (hx : x.shape = true) (hy : y.shape = true) (hs : ∀ v, v < 0 ∨ 1000000 ≤ v → cdif x y v = 0) (n1 : x.fn.size ≠ 0) (hf : x.fn = y.fn) (hl : x.args.length = y.args.length) :
    toldV (argsV g x.args y.args) (x.wt g - y.wt g) (mo (cdif x y)) (fe (cdif x y)) = kcmp g x y := by
  have n2 : y.fn.size ≠ 0 := by rw [← hf]; exact n1
  by_cases hw : x.wt g = y.wt g
  · have ns : ∀ a b : T, a.fn = b.fn → a.args.length = b.args.length → ¬ g.sym a.fn b.fn a.args.length b.args.length := fun a b h1 h2 h => sym_ne h ⟨h1, h2⟩
    have xy : gr g x y ↔ vle y x ∧ gr.grs g x.args y.args := by
      rw [gr_eq]
      constructor
      · rintro ⟨h1, h2 | ⟨_, _, _, h2 | ⟨_, _, h2⟩⟩⟩
        · omega
        · exact absurd h2 (ns x y hf hl)
        · exact ⟨h1, h2⟩
      · rintro ⟨h1, h2⟩
        exact ⟨h1, .inr ⟨hw, n1, n2, .inr ⟨hf, hl, h2⟩⟩⟩
    have yx : gr g y x ↔ vle x y ∧ gr.grs g y.args x.args := by
      rw [gr_eq]
      constructor
      · rintro ⟨h1, h2 | ⟨_, _, _, h2 | ⟨_, _, h2⟩⟩⟩
        · omega
        · exact absurd h2 (ns y x hf.symm hl.symm)
        · exact ⟨h1, h2⟩
      · rintro ⟨h1, h2⟩
        exact ⟨h1, .inr ⟨hw.symm, n2, n1, .inr ⟨hf.symm, hl.symm, h2⟩⟩⟩
    have a1 := argsV_one g x.args y.args
    have a2 := argsV_neg g x.args y.args
    have hne : argsV g x.args y.args ≠ 0 → x ≠ y := fun h e => h (by rw [e]; exact argsV_same g y.args)
    refine told_tie hs hw (fun h => ?_) (fun h => ⟨fun hv => xy.2 ⟨hv, a1.1 h⟩, fun k => ?_, hne (by omega)⟩) (fun h => ⟨fun hv => yx.2 ⟨hv, a2.1 h⟩, fun k => ?_, hne (by omega)⟩) (fun h => ⟨hne (by omega), fun k => ?_, fun k => ?_⟩) (argsV_rng g _ _)
    · have := argsV_zero g _ _ hl h
      rcases shape_cases hx with ⟨h, _⟩ | ⟨_, v1, _⟩
      · exact absurd h n1
      · rcases shape_cases hy with ⟨h, _⟩ | ⟨_, v2, _⟩
        · exact absurd h n2
        · exact same_ext (by rw [v1, v2]) hf this
    · have := a2.2 (yx.1 k).2
      omega
    · have := a1.2 (xy.1 k).2
      omega
    · have := a1.2 (xy.1 k).2
      omega
    · have := a2.2 (yx.1 k).2
      omega
  · exact told_wt hs hw

theorem wdifs_args {g : Sg} {x y : T} (hf : x.fn = y.fn) : wdifs g x.args y.args = x.wt g - y.wt g := by
  unfold wdifs
  rw [x.wt_eq, y.wt_eq, hf]
  omega
theorem cdifs_args {x y : T} (h1 : x.fn.size ≠ 0) (h2 : y.fn.size ≠ 0) : cdifs x.args y.args = cdif x y := by
  funext v
  unfold cdifs cdif
  rw [x.vs_eq, y.vs_eq, if_neg h1, if_neg h2, List.nil_append, List.nil_append]
theorem wadd_one (g : Sg) (x y : T) : wadd g (wadd g 0 1 [x]) (-1) [y] = x.wt g - y.wt g := by
  simp only [wadd, List.map_cons, List.map_nil, List.sum_cons, List.sum_nil]
  omega
theorem cadd_one (x y : T) : cadd (cadd (fun _ => 0) 1 [x]) (-1) [y] = cdif x y := by
  funext v
  simp only [cadd, cdif, List.map_cons, List.map_nil, List.flatten_cons, List.flatten_nil, List.append_nil]
  omega
theorem szs_one (x : T) : szs [x] = 2 * x.size.toNat := by simp [szs]

end Go.Proofs.Ytcnodgjalkcgiaa
