/-
  Sorting binds, at every length.
-/
import Derived.Test.YthinbkpjggihdaaTG
import Derived.Test.YthinbkpjggihdaaShelfB
namespace Go.Proofs.Ythinbkpjggihdaa
open Go.RowKit Go.Maps Go.Sort Go.Lib

/-- The order of two binds. -/
def cmpB (x y : BE) : Int := Lib.compareInt x.1.1 y.1.1

theorem ltB (x y : BE) : ltOf cmpB x y = decide (x.1.1 < y.1.1) := by
  unfold ltOf cmpB Lib.compareInt
  by_cases h1 : x.1.1 < y.1.1
  · simp [h1]
  · by_cases h2 : y.1.1 < x.1.1 <;> simp [h1, h2]

theorem swoB : SWO (ltOf cmpB) where
  irrefl x := by rw [ltB]; simp
  trans x y z h1 h2 := by rw [ltB] at *; simp at *; omega
  ntrans x y z h1 h2 := by rw [ltB] at *; simp at *; omega

set_option maxHeartbeats 1000000 in
theorem rcmp_grow (x y : BE) (W : World) : Calls Try.prog 66 #[.agg (encB x).toArray, .agg (encB y).toArray] W fun e w' => e = .returned (.int .i64 (cmpB x y)) ∧ ∃ q os', w' = grow (W.drewN q) os' := by
  obtain ⟨⟨t0, t1, t2, t3⟩, u0, u1, u2, u3⟩ := bbox2_cells W x.1 (.slice x.2.1 x.2.2.1 x.2.2.2) y.1 (.slice y.2.1 y.2.2.1 y.2.2.2)
  have hc : Lib.compareInt x.1.1 y.1.1 = cmpB x y := rfl
  obtain ⟨q, hq⟩ : ∃ q, cmpB x y = q := ⟨_, rfl⟩
  rw [hq] at hc ⊢
  show Calls Try.prog 66 #[bval x.1 (.slice x.2.1 x.2.2.1 x.2.2.2), bval y.1 (.slice y.2.1 y.2.2.1 y.2.2.2)] W _
  obtain ⟨x, xa, xn, xc⟩ := x
  obtain ⟨y, ya, yn, yc⟩ := y
  go_enter Try.func66, Try.ntmps66
  go_wp2_with (go_at_call 67; refine (cmpInt_any _ _ _).mono ?_; rintro e w' ⟨rfl, rfl⟩)
  go_ret
  exact ⟨rfl, 0, _, by rw [alloc_eq_grow, alloc_eq_grow, grow_grow]; rfl⟩

theorem cmpLaysB [Inhabited BE] (blk off size : Nat) (w : World) : CmpLays Try.prog 66 #[] encB 4 cmpB blk off size w := fun _ _ _ _ x y => rcmp_grow x y _

theorem eg66 : ∀ args w, (callFunc 66 args).run Try.prog w = .ok (.enter 66 args) w := enters_of Try.func66 (by kernel_rfl) rfl

/-- None behind has a smaller number. -/
def SortedE (es : List BE) : Prop := ∀ i j (hj : j < es.length) (hij : i < j), es[i].1.1 ≤ es[j].1.1

theorem encB_one (x : BE) : ∀ v ∈ encB x, v.oneCell' = true := by
  intro v hv
  unfold encB at hv
  simp only [List.mem_cons, List.not_mem_nil, or_false] at hv
  rcases hv with rfl | rfl | rfl | rfl <;> rfl

theorem sort_own (es : List BE) (v : Value) (n base : Nat) (W : World) (h : W.ownsRow base 35 4 v n (flatB (es.map beVal))) (hn : n ≤ 8000) :
    Calls Try.prog 65 #[v, .func (.func 66) #[] #[]] W fun e W' => e = .returned (.tuple #[]) ∧ ∃ es' : List BE, es'.Perm es ∧ SortedE es' ∧ W'.ownsRow base 35 4 v n (flatB (es'.map beVal)) ∧ W.grownBy W' v.ownBlock := by
  haveI : Inhabited BE := ⟨((0, var 0), none, 0, 0)⟩
  have hlen : es.length = n := by have := h.1; rw [flatB_len] at this; simp at this; omega
  have h2 := h.2
  rcases h2 with ⟨rfl, h0⟩ | ⟨g, cap, cur, rfl, _, _, _, _, _, _⟩
  · have e : es = [] := List.eq_nil_of_length_eq_zero (by omega)
    subst e
    refine (sort_any [] (.slice none 0 0) W ⟨none, 0, rfl, Nat.le_refl _, by decide, fun h => absurd h (by simp)⟩ (fun i j hj => absurd hj (by simp)) (by simp)).mono fun e W' ⟨he, hb⟩ => ⟨he, [], List.Perm.refl _, fun i j hj => absurd hj (by simp), ?_, ⟨hb.os, hb.tape, hb.output, hb.size, fun k hk _ => hb.block k hk⟩⟩
    rw [h0]
    exact World.ownsRow_nil _ _ _ _
  · have hd : es.toArray.toList = es := by simp
    have h' : W.ownsRow base 35 4 (.slice (some ⟨g, 0, none⟩) n cap) n (flatB (es.toArray.toList.map beVal)) := by rw [hd]; exact h
    obtain ⟨hH, hlt⟩ := row_holds h'
    have hs : es.toArray.size = n := by simpa using hlen
    have hcon := AnyQ.slices_SortFunc Try.sortL 4 Try.isAgg35 Try.sizeOf35 encB (fun _ => rfl) encB_one cmpB swoB 66 #[] g 0 cap es.toArray W eg66 (cmpLaysB g 0 _ W) hH hlt (by omega)
    rw [hs] at hcon
    refine Calls.mono (P := Try.prog) hcon fun e W' ⟨he, d', m, os, hp, hso, hw⟩ => ?_
    subst hw
    have hsz : d'.size = es.toArray.size := hp.1
    obtain ⟨hr1, hr2⟩ := sort_row h' hsz m os
    refine ⟨he, d'.toList, ?_, ?_, hr1, hr2⟩
    · have := hp.2.2
      rw [← hs, Array.extract_size] at this
      have e2 : d'.extract 0 es.toArray.size = d' := by rw [← hsz, Array.extract_size]
      rw [e2] at this
      simpa using this
    · intro i j hj hij
      have hj' : j < d'.size := by simpa using hj
      have := hso i j (Nat.zero_le _) hij (by omega)
      rw [ltB] at this
      have h3 := of_decide_eq_false this
      rw [getElem!_pos d' j hj', getElem!_pos d' i (by omega)] at h3
      simp only [Array.getElem_toList]
      omega

set_option maxHeartbeats 1000000 in
theorem rising_own (es : List BE) (v : Value) (n base : Nat) (W : World) (h : W.ownsRow base 35 4 v n (flatB (es.map beVal))) (hn : n ≤ 8000) :
    Calls Try.prog 37 #[v] W fun e W' => e = .returned v ∧ ∃ es' : List BE, es'.Perm es ∧ SortedE es' ∧ W'.ownsRow base 35 4 v n (flatB (es'.map beVal)) ∧ W.grownBy W' v.ownBlock := by
  have hp := sort_own es v n base W h hn
  obtain ⟨a, c, rfl⟩ := rowB_form h
  clear h
  go_enter Try.func37, Try.ntmps37
  go_wp2_with (first | (go_at_call 65; refine hp.mono ?_; rintro e w2 ⟨rfl, hb2⟩))
  go_ret
  exact ⟨rfl, hb2⟩

end Go.Proofs.Ythinbkpjggihdaa
