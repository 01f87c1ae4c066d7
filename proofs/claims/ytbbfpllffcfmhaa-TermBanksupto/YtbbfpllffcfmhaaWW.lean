/-
  A region in any order whose last operation stores into what the others read.
-/
import Derived.Test.YtbbfpllffcfmhaaZC
import Derived.StillTail
namespace Go.Proofs.Ytbbfpllffcfmhaa
open Go.RowKit

section
variable {P : Program} {ops : Array Oper} {Q : Exit → Act → World → Prop} {md : Region.Mode} {S : World → Prop}
/-- In any order; S is held behind every operation but number N, the last. -/
def wpLast (P : Program) (md : Region.Mode) (ops : Array Oper) (Q : Exit → Act → World → Prop) (S : World → Prop) (N : Nat) : Nat → Array Bool → Act → World → Prop
  | 0, ls, a, w => Region.ready md ops ls = [] ∧ Q .normal a w
  | n + 1, ls, a, w => (Region.ready md ops ls = [] → Q .normal a w) ∧ ∀ i ∈ Region.ready md ops ls, wpOp P ops Q i (fun b z => (i < N → S z) ∧ wpLast P md ops Q S N n (ls.setIfInBounds i true) b z) a w
theorem wpLast_any {N : Nat} : ∀ {n : Nat} {ls : Array Bool} {a : Act} {w : World}, wpLast P md ops Q S N n ls a w → wpAny P md ops Q n ls a w
  | 0, _, _, _, h => h
  | _ + 1, _, _, _, h => ⟨h.1, fun i hi => wpOp_mono (fun _ _ k => wpLast_any k.2) (h.2 i hi)⟩
/-- What has come up is closed, and the last has not. -/
def headB (md : Region.Mode) (ops : Array Oper) (N : Nat) (ls : Array Bool) : Bool :=
  decide (ls.size = ops.size) && (List.range ops.size).all (fun j => !(ls.getD j false) || match ops[j]? with | some oj => oj.after.all (fun e => !(Region.binds md e) || ls.getD e.on false) | none => true) && (List.range ops.size).all (fun t => decide (t < N) || !(ls.getD t true))
theorem headB_inv {N : Nat} {ls : Array Bool} (h : headB md ops N ls = true) : HeadInv md ops N ls := by
  unfold headB at h
  simp only [Bool.and_eq_true, decide_eq_true_eq, List.all_eq_true, List.mem_range] at h
  obtain ⟨⟨h1, h2⟩, h3⟩ := h
  refine ⟨h1, fun j oj hj hl e he hb => ?_, fun t ht htl => ?_⟩
  · have q := h2 j (Array.getElem?_eq_some_iff.1 hj).1
    rw [hl, hj] at q
    simp only [Bool.not_true, Bool.false_or, Array.all_eq_true'] at q
    have := q e he
    rw [hb] at this
    simpa using this
  · have q := h3 t htl
    have : ¬ t < N := by omega
    simpa [this] using q
/-- What is left beside i has nothing to do with it, or waits for it. -/
def Frees (md : Region.Mode) (ops : Array Oper) (i : Nat) (oi : Oper) (ls : Array Bool) : Prop := ∀ j oj, ops[j]? = some oj → j ≠ i → ls.getD j true = false → (∀ e ∈ oj.after, Region.binds md e = true → e.on ≠ i) → oi.apart ops oj = true
theorem Frees.set {i j : Nat} {oi : Oper} {ls : Array Bool} (h : Frees md ops i oi ls) (hj : ls.getD j true = false) : Frees md ops i oi (ls.setIfInBounds j true) := fun k ok hk hki hl hn => by
  refine h k ok hk hki ?_ hn
  by_cases e : j = k
  · exact e ▸ hj
  · rwa [getD_set_ne true e] at hl
theorem not_after {i : Nat} {oj : Oper} {ls : Array Bool} (hi : ls.getD i true = false) (hall : ∀ e ∈ oj.after, Region.binds md e = true → ls.getD e.on false = true) : ∀ e ∈ oj.after, Region.binds md e = true → e.on ≠ i := fun e he hb k => by
  have q := hall e he hb
  rw [k] at q
  simp only [Array.getD_eq_getD_getElem?] at q hi
  cases h : ls[i]? with
  | none => rw [h] at q; cases q
  | some b => rw [h] at q hi; simp at q hi; rw [q] at hi; cases hi
theorem wpLast_front {i : Nat} {oi : Oper} {v : Value} (hi : ops[i]? = some oi) (hsel : Region.noSelect ops = true) (hQ : ∀ c a w, Q (.panic c) (a.put oi.dst v) w → Q (.panic c) a w) {N : Nat} (hsk : Region.sinkB md ops N = true) (hch : Region.chainB md ops N = true) (hN : N < ops.size) (hiN : i < N) (n : Nat) :
    ∀ (ls : Array Bool) (a : Act) (w : World), HeadInv md ops N ls → Frees md ops i oi ls → i ∈ Region.ready md ops ls → YieldsIf P ops S oi v a → S w → wpLast P md ops Q S N n (ls.setIfInBounds i true) (a.put oi.dst v) w → wpLast P md ops Q S N (n + 1) ls a w := by
  have hs := Region.noSelect_spec hsel
  induction n with
  | zero =>
    intro ls a w _ _ hr hy hS H
    refine ⟨fun e => absurd (e ▸ hr) (by simp), fun j hj => ?_⟩
    have : j = i := Decidable.byContradiction fun e => absurd (H.1 ▸ ready_mono hj e) (by simp)
    subst this
    exact hy.wpOp hi hS ⟨fun _ => hS, H⟩
  | succ n ih =>
    intro ls a w inv hf hr hy hS H
    refine ⟨fun e => absurd (e ▸ hr) (by simp), fun j hj => ?_⟩
    rcases Decidable.em (j = i) with rfl | hne
    · exact hy.wpOp hi hS ⟨fun _ => hS, H⟩
    have hjN : j < N := Decidable.byContradiction fun e => tail_waits hsk hch hN inv _ i rfl hiN (mem_ready.1 hr).1 j (by omega) hj
    obtain ⟨hl, oj, hoj, hall⟩ := mem_ready.1 hj
    have hap := hf j oj hoj hne hl (not_after (mem_ready.1 hr).1 hall)
    have key := wpOp_putIf hoj hap (fun cs b => hs i oi cs b hi) (fun cs b => hs j oj cs b hoj) hQ hy (H.2 j (ready_mono hj hne))
    refine wpOp_mono (fun b z q => ?_) key
    obtain ⟨qy, qS, qH⟩ := q
    have hSz : S z := qS hjN
    refine ⟨fun _ => hSz, ih _ b z (inv.set hj hjN) (hf.set hl) (ready_mono hr (Ne.symm hne)) qy hSz ?_⟩
    rw [Array.setIfInBounds_comm _ _ hne]
    exact qH
theorem wpLast_take (i : Nat) (v : Value) {N : Nat} {d : Option Tmp} {op : Op} {ty : TypeId} {pos : String} {aft} {gd} {n : Nat} {ls : Array Bool} {a : Act} {w : World} (hi : ops[i]? = some ⟨d, op, ty, pos, aft, gd⟩)
    (hs : Region.noSelect ops = true) (hf : Region.free md ops ls i = true) (hr : (Region.ready md ops ls).contains i = true) (hh : (Region.sinkB md ops N && Region.chainB md ops N && decide (N < ops.size) && decide (i < N) && headB md ops N ls) = true)
    (hQ : ∀ c a w, Q (.panic c) (a.put d v) w → Q (.panic c) a w) (hy : YieldsIf P ops S ⟨d, op, ty, pos, aft, gd⟩ v a) (hS : S w)
    (h : wpLast P md ops Q S N n (ls.setIfInBounds i true) (a.put d v) w) : wpLast P md ops Q S N (n + 1) ls a w :=
  by
  simp only [Bool.and_eq_true, decide_eq_true_eq] at hh
  obtain ⟨⟨⟨⟨h1, h2⟩, h3⟩, h4⟩, h5⟩ := hh
  exact wpLast_front hi hs hQ h1 h2 h3 h4 n ls a w (headB_inv h5) (Region.free_spec hi hf) (by simpa using hr) hy hS h
theorem wpLast_one {N i n : Nat} {o : Oper} {ls : Array Bool} {a : Act} {w : World} (hr : Region.ready md ops ls = [i]) (ho : ops[i]? = some o)
    (h : ∀ K : Act → World → Prop, Shut (∀ b z, (i < N → S z) → wpLast P md ops Q S N n (ls.setIfInBounds i true) b z → K b z) → if Region.wanted o (yielded ops a.tmps) = true then Oper.wp P o a w K Q else K (a.put o.dst undef) w) : wpLast P md ops Q S N (n + 1) ls a w := by
  refine ⟨fun e => absurd (hr ▸ e) (by simp), fun j hj => ?_⟩
  rw [hr] at hj
  obtain rfl := List.mem_singleton.1 hj
  exact wpOp_step ho (fun K hK => h K (fun b z h1 h2 => hK b z ⟨h1, h2⟩))
theorem wpLast_done {N : Nat} {ls : Array Bool} {a : Act} {w : World} (hr : Region.ready md ops ls = []) (h : Q .normal a w) : ∀ n, wpLast P md ops Q S N n ls a w
  | 0 => ⟨hr, h⟩
  | _ + 1 => ⟨fun _ => h, by rw [hr]; simp⟩
theorem wp_region_last {id : Nat} (N : Nat) {a : Act} {w : World} (hm : P.follows .mixedOrders = true) (h : wpLast P .any ops Q S N ops.size (Array.replicate ops.size false) a w.drew) : (Code.region id ops true).wp P Q a w := wp_region_any hm (wpLast_any h)
end

end Go.Proofs.Ytbbfpllffcfmhaa
