/-
  Laying a term: the loop's start, round and end.
-/
import Derived.Test.YtiklbkkimmgbcaaHE
import Derived.Test.YtiklbkkimmgbcaaHW
namespace Go.Proofs.Ytiklbkkimmgbcaa
open Go.RowKit

section
variable {W0 W W3 : World} {B base : Nat} {v : Value} {L : List (Nd × Value)} {t : T} {s : Value} {k : Nat} {v' : Value} {L2 : List (Nd × Value)} {vv : Value} {ks : List Nat} {wr : World}

theorem LayI.start (h : LayS W0 W B base v L) (h3 : Below W.heap.size W W3) (tb : W3.heap[W.heap.size]? = some (.cells #[.int .i64 t.v, .string t.fn, s] 24 (0, 0))) (nb : W3.heap[W.heap.size + 1]? = some (.cells #[.int .i64 t.v, .string t.fn, .slice none 0 0, .int .i64 0] 101 (0, 0))) : LayI W0 W W3 B base v L t s 0 v [] (.slice none 0 0) [] W3 := by
  refine ⟨by simpa using h.keep h3, Only.refl _ _, .inl rfl, tb, nb, World.ownsRow_nil _ _ _ _, fun g hg => (by cases hg), ⟨rfl, fun j hj => (by simp at hj)⟩, (by simp [upto_zero]), fun x hx b hb => ?_, fun x hx => (by simp at hx)⟩
  have := (h.ib x (by simpa using hx) b hb).1
  refine ⟨by omega, fun e => by cases e⟩

theorem LayI.next (h : LayI W0 W W3 B base v L t s k v' L2 vv ks wr) (hk : k < t.args.length) (hB : B < W.heap.size) (hv : ∀ g, v.ownBlock = some g → g < W.heap.size) (h3 : W3.heap.size = W.heap.size + 2) (hw0 : W0.heap.size ≤ W.heap.size)
    {Wd W5 W7 : World} (hd : Below wr.heap.size wr Wd) {i : Nat} {v5 v7 : Value} {L5 : List (Nd × Value)} (hp : LayS W0 W5 B base v5 ((L ++ L2) ++ L5)) (hf : LayF Wd W5 B v' v5) (hr : Rep (((L ++ L2) ++ L5).map (·.1)) i t.args[k]) (hi : i < ((L ++ L2) ++ L5).length) (hl : (L5.length : Int) ≤ t.args[k].size) (hnw : ∀ x ∈ L5, ∀ b, x.2.ownBlock = some b → Wd.heap.size ≤ b)
    {bl : Obj} (hrow : W7.ownsRow (W.heap.size + 2) 3 1 v7 (k + 1) ((ks.map fun n => .int .i64 (n : Nat)) ++ [.int .i64 (i : Nat)])) (hg7 : (W5.alloc bl).grownBy W7 vv.ownBlock) (hb7 : v7.ownBlock = vv.ownBlock ∨ v7.ownBlock = some (W5.alloc bl).heap.size) :
    LayI W0 W W3 B base v L t s (k + 1) v5 (L2 ++ L5) v7 (ks ++ [i]) (W7.setCell ⟨W.heap.size + 1, 2, none⟩ v7) := by
  have hsz := h.sizes
  have hds := hd.size
  have h5s := hf.only.size
  obtain ⟨n1, n2⟩ := h.vne hv
  have hvv := h.vvne
  have vvlt : ∀ g, vv.ownBlock = some g → g < wr.heap.size := fun g hg => by
    obtain ⟨_, cq, hq⟩ := row_block h.row hg
    exact (Array.getElem?_eq_some_iff.1 hq).1
  have v'lt : ∀ g, v'.ownBlock = some g → g < wr.heap.size := fun g hg => (h.st.vlt hg).2
  have hfw : LayF wr W5 B v' v5 := ⟨(Only.of_below (B := B :: ob v') hd).trans hf.only (fun r hr => .inl hr), by
    rcases hf.blk with e | ⟨g, e, hg⟩
    · exact .inl e
    · exact .inr ⟨g, e, by omega⟩⟩
  obtain ⟨tb5, nb5, row5⟩ := h.after hB hv hfw
  have v5ne : ∀ g, v5.ownBlock = some g → g ≠ W.heap.size ∧ g ≠ W.heap.size + 1 ∧ vv.ownBlock ≠ some g := fun g hg => by
    rcases hf.blk with e | ⟨g', e, hg'⟩
    · rw [e] at hg
      exact ⟨fun e => n1 (by rw [← e]; exact hg), fun e => n2 (by rw [← e]; exact hg), fun e => h.ne g e hg⟩
    · obtain rfl : g' = g := by rw [e] at hg; injection hg
      exact ⟨by omega, by omega, fun e => by have := vvlt _ e; omega⟩
  obtain ⟨W6, hW6⟩ : ∃ X, W5.alloc bl = X := ⟨_, rfl⟩
  have b6 : Below W5.heap.size W5 W6 := by rw [← hW6]; exact below_box _ _
  rw [hW6] at hg7 hb7
  have h6s := b6.size
  have o7 : Only (ob vv) W6 W7 := Only.of_grown hg7 (fun r hr => mem_ob.2 hr)
  have h7s := o7.size
  have o8 := only_setCell W7 (W.heap.size + 1) 2 v7
  have oE : Only ((W.heap.size + 1) :: ob vv) W5 (W7.setCell ⟨W.heap.size + 1, 2, none⟩ v7) :=
    ((Only.of_below (B := (W.heap.size + 1) :: ob vv) b6).trans o7 (fun r hr => .inl (List.mem_cons_of_mem _ hr))).trans o8 (fun r hr => .inl (by simp at hr; simp [hr]))
  have xne : ∀ x ∈ (L ++ L2) ++ L5, ∀ b, x.2.ownBlock = some b → b ≠ W.heap.size + 1 ∧ vv.ownBlock ≠ some b := fun x hx b hb => by
    rcases List.mem_append.1 hx with hx | hx
    · exact h.nn x hx b hb
    · have := hnw x hx b hb
      exact ⟨by omega, fun e => by have := vvlt _ e; omega⟩
  have v7ge : ∀ g, v7.ownBlock = some g → W.heap.size + 2 ≤ g := fun g hg => (row_block hrow hg).1
  have nb7 : W7.heap[W.heap.size + 1]? = some (.cells #[.int .i64 t.v, .string t.fn, vv, .int .i64 0] 101 (0, 0)) := by
    rw [o7.block _ (by omega) (fun e => by have := hvv _ (mem_ob.1 e); omega), b6.block _ (by omega)]
    exact nb5
  have v5lt : ∀ g, v5.ownBlock = some g → g < W5.heap.size := fun g hg => (hp.vlt hg).2
  refine ⟨?_, ?_, ?_, ?_, ?_, ?_, ?_, ⟨by simp [h.reps.1], fun j hj => ?_⟩, ?_, ?_, ?_⟩
  · rw [← List.append_assoc]
    refine hp.kept oE ?_ (fun g hg hm => ?_) (fun g hg => ?_) (fun x hx b hb hm => ?_)
    · intro hm
      rcases List.mem_cons.1 hm with e | hm
      · omega
      · have := hvv _ (mem_ob.1 hm); omega
    · rcases List.mem_cons.1 hm with e | hm
      · exact (v5ne g hg).2.1 e
      · exact (v5ne g hg).2.2 (mem_ob.1 hm)
    · rcases List.mem_cons.1 hg with e | hm
      · omega
      · have := hvv _ (mem_ob.1 hm); omega
    · rcases List.mem_cons.1 hm with e | hm
      · exact (xne x hx b hb).1 e
      · exact (xne x hx b hb).2 (mem_ob.1 hm)
  · have f1 := h.fr.trans hfw.only (fun r hr => by
      rcases List.mem_cons.1 hr with e | hm
      · exact .inl (by simp [e])
      · rcases h.blk with e | ⟨g, e, hg⟩
        · rw [mem_ob, e] at hm
          exact .inl (by simp [mem_ob, hm])
        · rw [mem_ob, e] at hm
          injection hm with hm
          exact .inr (by omega))
    exact f1.trans oE (fun r hr => by
      rcases List.mem_cons.1 hr with e | hm
      · exact .inl (by simp [e])
      · have := hvv _ (mem_ob.1 hm)
        exact .inr (by omega))
  · rcases hf.blk with e | ⟨g, e, hg⟩
    · rw [e]; exact h.blk
    · exact .inr ⟨g, e, by omega⟩
  · rw [oE.block _ (by omega) (fun hm => by
      rcases List.mem_cons.1 hm with e | hm
      · omega
      · have := hvv _ (mem_ob.1 hm); omega)]
    exact tb5
  · rw [heap_setCell_same W7 (W.heap.size + 1) 2 _ 101 v7 nb7]
    rfl
  · rw [List.map_append]
    exact row_keep hrow (fun g hg => Below.heap_setCell _ _ _ g (by have := v7ge g hg; show g ≠ W.heap.size + 1; omega))
  · intro g hg e
    rcases hb7 with e7 | e7
    · rw [e7] at hg
      exact (v5ne g e).2.2 hg
    · rw [e7] at hg
      injection hg with hg
      have := v5lt g e
      omega
  · rw [← List.append_assoc]
    have hjl : j < ks.length ∨ j = ks.length := by simp at hj; omega
    rcases hjl with hj1 | rfl
    · rw [List.getElem_append_left hj1]
      obtain ⟨q1, q2⟩ := h.reps.2 j hj1
      refine ⟨by rw [List.length_append]; omega, fun x hx => ?_⟩
      rw [List.map_append]
      exact (q2 x hx).app
    · have e : (ks ++ [i])[ks.length] = i := by simp
      rw [e]
      refine ⟨hi, fun x hx => ?_⟩
      rw [h.reps.1, List.getElem?_eq_getElem hk] at hx
      cases hx
      exact hr
  · rw [upto_succ _ _ _ hk, List.length_append]
    have := h.len
    omega
  · rw [← List.append_assoc]
    intro x hx b hb
    refine ⟨(xne x hx b hb).1, fun e => ?_⟩
    rcases hb7 with e7 | e7
    · rw [e7] at e
      exact (xne x hx b hb).2 e
    · rw [e7] at e
      injection e with e
      have := (hp.ib x hx b hb).1
      omega
  · intro x hx b hb
    rcases List.mem_append.1 hx with hx | hx
    · exact h.nw x hx b hb
    · have := hnw x hx b hb
      omega

theorem ints_of_row {Z : World} {b0 : Nat} {vv : Value} {ks : List Nat} (h : Z.ownsRow b0 3 1 vv ks.length (ks.map fun n => .int .i64 (n : Nat))) : IntsP (fun _ => True) Z vv (ints ks) := by
  obtain ⟨hlen, ⟨e, h0⟩ | ⟨g, cap, cur, e, hb, hg, hc, hm, hsz, ht⟩⟩ := h
  · subst e
    have : ks = [] := List.length_eq_zero_iff.1 h0
    subst this
    exact ⟨none, 0, rfl, Nat.le_refl _, by omega, fun h => absurd h (by simp)⟩
  · refine ⟨some ⟨g, 0, none⟩, cap, by rw [e]; simp, by simpa using hc, by unfold maxLen at hm; omega, fun h0 => ⟨g, 0, rfl, (Array.getElem?_eq_some_iff.1 hg).1, trivial, fun i hi => ?_⟩⟩
    have hi' : i < ks.length := by simpa using hi
    have hq : (ks.map fun n => Value.int .i64 (n : Nat))[i]? = some (.int .i64 (ks[i] : Nat)) := by simp [hi']
    rw [← ht, List.getElem?_take] at hq
    split at hq
    · simp [World.cell?, hg, hq, ← Array.getElem?_toList]
    · cases hq

theorem LayI.last (h : LayI W0 W W3 B base v L t s k v' L2 vv ks wr) (h16 : t.args.length ≤ 16) (hk : k = t.args.length) (hB : B < W.heap.size) (hv : ∀ g, v.ownBlock = some g → g < W.heap.size) (h3 : Below W.heap.size W W3) (h3s : W3.heap.size = W.heap.size + 2) (hw0 : W0.heap.size ≤ W.heap.size)
    {Wd W7 : World} {v7 : Value} {bl : Obj} (hd : Only [W.heap.size + 1] wr Wd) (hrow : W7.ownsRow base 101 4 v7 ((L ++ L2).length + 1) (flN (L ++ L2) 0 ++ ncs t.v t.fn vv (L ++ L2).length)) (hg7 : (Wd.alloc bl).grownBy W7 v'.ownBlock) (hb7 : v7.ownBlock = v'.ownBlock ∨ v7.ownBlock = some (Wd.alloc bl).heap.size) :
    LayP W0 W B base v L t (.returned (.int .i64 ((L ++ L2).length : Nat))) (W7.setCell ⟨B, 0, none⟩ v7) := by
  have hsz := h.sizes
  have hds := hd.size
  obtain ⟨n1, n2⟩ := h.vne hv
  have hvv := h.vvne
  obtain ⟨W6, hW6⟩ : ∃ X, Wd.alloc bl = X := ⟨_, rfl⟩
  have b6 : Below Wd.heap.size Wd W6 := by rw [← hW6]; exact below_box _ _
  rw [hW6] at hg7 hb7
  have h6s := b6.size
  have o7 : Only (ob v') W6 W7 := Only.of_grown hg7 (fun r hr => mem_ob.2 hr)
  have h7s := o7.size
  have o8 := only_setCell W7 B 0 v7
  have v'lt : ∀ g, v'.ownBlock = some g → base ≤ g ∧ g < wr.heap.size := fun g hg => h.st.vlt hg
  have vvlt : ∀ g, vv.ownBlock = some g → g < wr.heap.size := fun g hg => by
    obtain ⟨_, cq, hq⟩ := row_block h.row hg
    exact (Array.getElem?_eq_some_iff.1 hq).1
  obtain ⟨o1, o2, o3⟩ := h.st.ord
  have oE : Only ((W.heap.size + 1) :: B :: ob v') wr (W7.setCell ⟨B, 0, none⟩ v7) :=
    ((((Only.refl ((W.heap.size + 1) :: B :: ob v') wr).trans hd (fun r hr => .inl (by simp at hr; simp [hr]))).trans (Only.of_below (B := []) b6) (by simp)).trans o7 (fun r hr => .inl (List.mem_cons_of_mem _ (List.mem_cons_of_mem _ hr)))).trans o8 (fun r hr => .inl (by simp at hr; simp [hr]))
  have hes := oE.size
  have v7ge : ∀ g, v7.ownBlock = some g → base ≤ g := fun g hg => (row_block hrow hg).1
  have v7ne : ∀ b, b < wr.heap.size → v'.ownBlock ≠ some b → v7.ownBlock ≠ some b := fun b hb h1 e => by
    rcases hb7 with e7 | e7
    · exact h1 (e7 ▸ e)
    · rw [e7] at e
      injection e with e
      omega
  have xk : ∀ x ∈ L ++ L2, ∀ b, x.2.ownBlock = some b → b ∉ (W.heap.size + 1) :: B :: ob v' := fun x hx b hb hm => by
    obtain ⟨k1, k2, k3⟩ := h.st.ib x hx b hb
    have k4 := (h.nn x hx b hb).1
    simp only [List.mem_cons, mem_ob] at hm
    rcases hm with e | e | e
    · exact k4 e
    · exact k2 e
    · exact k3 e
  have vk : ∀ g, vv.ownBlock = some g → g ∉ (W.heap.size + 1) :: B :: ob v' := fun g hg hm => by
    have := hvv g hg
    simp only [List.mem_cons, mem_ob] at hm
    rcases hm with e | e | e
    · omega
    · omega
    · exact h.ne g hg e
  have box7 : W7.heap[B]? = some (.cells #[v'] 93 (0, 0)) := by
    rw [o7.block _ (by omega) (fun e => by have := (v'lt _ (mem_ob.1 e)).1; omega), b6.block _ (by omega), hd.block _ (by omega) (by simp; omega)]
    exact h.st.box
  have hIE : IntsP (fun _ => True) (W7.setCell ⟨B, 0, none⟩ v7) vv (ints ks) := by
    have hrw := h.row
    rw [← h.reps.1] at hrw
    exact (ints_of_row hrw).kept hes (fun b hb hlt => oE.block b hlt (vk b hb))
  have hkl : ks.length = t.args.length := by rw [h.reps.1, hk]
  refine ⟨(L ++ L2).length, v7, L2 ++ [(⟨t.v, t.fn, ks⟩, vv)], rfl, ?_, ⟨?_, ?_⟩, ?_, ?_, ?_, ?_⟩
  · rw [← List.append_assoc]
    refine ⟨h.st.bel.trans (oE.below h.st.bel.size (fun r hr => ?_)), ⟨o1, o2, by omega⟩, ?_, ?_, fun x hx => ?_, fun x hx b hb => ?_, fun i x hx a ha => ?_, fun x hx => ?_⟩
    · simp only [List.mem_cons, mem_ob] at hr
      rcases hr with e | e | e
      · omega
      · omega
      · have := (v'lt _ e).1; omega
    · rw [heap_setCell_same W7 B 0 _ 93 v7 box7]
      rfl
    · rw [flN_snoc, List.length_append, List.length_singleton]
      exact row_keep hrow (fun g hg => Below.heap_setCell _ _ _ g (by have := v7ge g hg; show g ≠ B; omega))
    · rcases List.mem_append.1 hx with hx | hx
      · exact (h.st.ia x hx).kept hes (fun b hb hlt => oE.block b hlt (xk x hx b hb))
      · obtain rfl := List.mem_singleton.1 hx
        exact hIE
    · rcases List.mem_append.1 hx with hx | hx
      · obtain ⟨k1, k2, k3⟩ := h.st.ib x hx b hb
        exact ⟨by omega, k2, v7ne b k1 k3⟩
      · obtain rfl := List.mem_singleton.1 hx
        have l1 := vvlt b hb
        have l2 := hvv b hb
        exact ⟨by omega, by omega, v7ne b l1 (h.ne b hb)⟩
    · by_cases hil : i < (L ++ L2).length
      · rw [List.getElem?_append_left hil] at hx
        exact h.st.lt i x hx a ha
      · have hie : i = (L ++ L2).length := by
          have := (List.getElem?_eq_some_iff.1 hx).1
          rw [List.length_append, List.length_singleton] at this
          omega
        subst hie
        simp at hx
        subst hx
        obtain ⟨j, hj, rfl⟩ := List.getElem_of_mem ha
        exact (h.reps.2 j hj).1
    · rcases List.mem_append.1 hx with hx | hx
      · exact h.st.al x hx
      · obtain rfl := List.mem_singleton.1 hx
        show ks.length ≤ 16
        omega
  · have f0 := (Only.of_below (B := B :: ob v) h3).trans h.fr (fun r hr => by
      rcases List.mem_cons.1 hr with e | hm
      · exact .inr (by omega)
      · exact .inl hm)
    exact f0.trans oE (fun r hr => by
      simp only [List.mem_cons, mem_ob] at hr
      rcases hr with e | e | e
      · exact .inr (by omega)
      · exact .inl (by simp [e])
      · rcases h.blk with e2 | ⟨g, e2, hg⟩
        · rw [e2] at e
          exact .inl (by simp [mem_ob, e])
        · rw [e2] at e
          injection e with e
          exact .inr (by omega))
  · rcases hb7 with e7 | e7
    · rw [e7]
      rcases h.blk with e2 | ⟨g, e2, hg⟩
      · exact .inl e2
      · exact .inr ⟨g, e2, by omega⟩
    · exact .inr ⟨_, e7, by omega⟩
  · rw [← List.append_assoc, List.map_append]
    refine .mk _ _ ⟨t.v, t.fn, ks⟩ (by simp) rfl (fun _ => hkl) (fun _ j a x ha hx => ?_)
    obtain ⟨hj, rfl⟩ := List.getElem?_eq_some_iff.1 ha
    exact ((h.reps.2 j hj).2 x hx).app
  · simp only [List.length_append, List.length_singleton]
    omega
  · rw [T.size_eq, ← upto_all T.size t.args k (by omega), List.length_append, List.length_singleton]
    have := h.len
    omega
  · intro x hx b hb
    rcases List.mem_append.1 hx with hx | hx
    · exact h.nw x hx b hb
    · obtain rfl := List.mem_singleton.1 hx
      have := hvv b hb
      omega
end

end Go.Proofs.Ytiklbkkimmgbcaa
