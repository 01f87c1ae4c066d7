import Derived.Test.YtblfbmdnkgebdaaGS
import Derived.StillTail
import Derived.Test.YtblfbmdnkgebdaaDD
import Derived.Deep.Slices
import Derived.Deep.RegionLaw

/-
  Regions whose last operation stands alone.
-/
namespace Go.Proofs.Ytblfbmdnkgebdaa.Dn
open Go.RowKit Go.Maps

section
variable {P : Program} {ops : Array Oper} {Q : Exit → Act → World → Prop} {md : Region.Mode} {S : World → Prop}
/-- In any order; S is held behind every operation but number N, the last. -/
def wpLast (P : Program) (md : Region.Mode) (ops : Array Oper) (Q : Exit → Act → World → Prop) (S : World → Prop) (N : Nat) : Nat → Array Bool → Act → World → Prop
  | 0, ls, a, w => Region.ready md ops ls = [] ∧ Q .normal a w
  | n + 1, ls, a, w => (Region.ready md ops ls = [] → Q .normal a w) ∧ ∀ i ∈ Region.ready md ops ls, wpOp P ops Q i (fun b z => (i < N → S z) ∧ wpLast P md ops Q S N n (ls.setIfInBounds i true) b z) a w
theorem wpLast_any {N : Nat} : ∀ {n : Nat} {ls : Array Bool} {a : Act} {w : World}, wpLast P md ops Q S N n ls a w → wpAny P md ops Q n ls a w
  | 0, _, _, _, h => h
  | _ + 1, _, _, _, h => ⟨h.1, fun i hi => wpOp_mono (fun _ _ k => wpLast_any k.2) (h.2 i hi)⟩
/-- What has come up is closed, and the last has not. -/
def headB (md : Region.Mode) (ops : Array Oper) (N : Nat) (ls : Array Bool) : Bool :=
  decide (ls.size = ops.size) && (List.range ops.size).all (fun j => !(ls.getD j false) || match ops[j]? with | some oj => oj.after.all (fun e => !(Region.binds md e) || ls.getD e.on false) | none => true) && (List.range ops.size).all (fun t => decide (t < N) || !(ls.getD t true))
theorem headB_inv {N : Nat} {ls : Array Bool} (h : headB md ops N ls = true) : HeadInv md ops N ls := by
  unfold headB at h
  simp only [Bool.and_eq_true, decide_eq_true_eq, List.all_eq_true, List.mem_range] at h
  obtain ⟨⟨h1, h2⟩, h3⟩ := h
  refine ⟨h1, fun j oj hj hl e he hb => ?_, fun t ht htl => ?_⟩
  · have q := h2 j (Array.getElem?_eq_some_iff.1 hj).1
    rw [hl, hj] at q
    simp only [Bool.not_true, Bool.false_or, Array.all_eq_true'] at q
    have := q e he
    rw [hb] at this
    simpa using this
  · have q := h3 t htl
    have : ¬ t < N := by omega
    simpa [this] using q
/-- What is left beside i has nothing to do with it, or waits for it. -/
def Frees (md : Region.Mode) (ops : Array Oper) (i : Nat) (oi : Oper) (ls : Array Bool) : Prop := ∀ j oj, ops[j]? = some oj → j ≠ i → ls.getD j true = false → (∀ e ∈ oj.after, Region.binds md e = true → e.on ≠ i) → oi.apart ops oj = true
theorem Frees.set {i j : Nat} {oi : Oper} {ls : Array Bool} (h : Frees md ops i oi ls) (hj : ls.getD j true = false) : Frees md ops i oi (ls.setIfInBounds j true) := fun k ok hk hki hl hn => by
  refine h k ok hk hki ?_ hn
  by_cases e : j = k
  · exact e ▸ hj
  · rwa [getD_set_ne true e] at hl
theorem not_after {i : Nat} {oj : Oper} {ls : Array Bool} (hi : ls.getD i true = false) (hall : ∀ e ∈ oj.after, Region.binds md e = true → ls.getD e.on false = true) : ∀ e ∈ oj.after, Region.binds md e = true → e.on ≠ i := fun e he hb k => by
  have q := hall e he hb
  rw [k] at q
  simp only [Array.getD_eq_getD_getElem?] at q hi
  cases h : ls[i]? with
  | none => rw [h] at q; cases q
  | some b => rw [h] at q hi; simp at q hi; rw [q] at hi; cases hi
theorem wpLast_front {i : Nat} {oi : Oper} {v : Value} (hi : ops[i]? = some oi) (hsel : Region.noSelect ops = true) (hQ : ∀ c a w, Q (.panic c) (a.put oi.dst v) w → Q (.panic c) a w) {N : Nat} (hsk : Region.sinkB md ops N = true) (hch : Region.chainB md ops N = true) (hN : N < ops.size) (hiN : i < N) (n : Nat) :
    ∀ (ls : Array Bool) (a : Act) (w : World), HeadInv md ops N ls → Frees md ops i oi ls → i ∈ Region.ready md ops ls → YieldsIf P ops S oi v a → S w → wpLast P md ops Q S N n (ls.setIfInBounds i true) (a.put oi.dst v) w → wpLast P md ops Q S N (n + 1) ls a w := by
  have hs := Region.noSelect_spec hsel
  induction n with
  | zero =>
    intro ls a w _ _ hr hy hS H
    refine ⟨fun e => absurd (e ▸ hr) (by simp), fun j hj => ?_⟩
    have : j = i := Decidable.byContradiction fun e => absurd (H.1 ▸ ready_mono hj e) (by simp)
    subst this
    exact hy.wpOp hi hS ⟨fun _ => hS, H⟩
  | succ n ih =>
    intro ls a w inv hf hr hy hS H
    refine ⟨fun e => absurd (e ▸ hr) (by simp), fun j hj => ?_⟩
    rcases Decidable.em (j = i) with rfl | hne
    · exact hy.wpOp hi hS ⟨fun _ => hS, H⟩
    have hjN : j < N := Decidable.byContradiction fun e => tail_waits hsk hch hN inv _ i rfl hiN (mem_ready.1 hr).1 j (by omega) hj
    obtain ⟨hl, oj, hoj, hall⟩ := mem_ready.1 hj
    have hap := hf j oj hoj hne hl (not_after (mem_ready.1 hr).1 hall)
    have key := wpOp_putIf hoj hap (fun cs b => hs i oi cs b hi) (fun cs b => hs j oj cs b hoj) hQ hy (H.2 j (ready_mono hj hne))
    refine wpOp_mono (fun b z q => ?_) key
    obtain ⟨qy, qS, qH⟩ := q
    have hSz : S z := qS hjN
    refine ⟨fun _ => hSz, ih _ b z (inv.set hj hjN) (hf.set hl) (ready_mono hr (Ne.symm hne)) qy hSz ?_⟩
    rw [Array.setIfInBounds_comm _ _ hne]
    exact qH
theorem wpLast_take (i : Nat) (v : Value) {N : Nat} {d : Option Tmp} {op : Op} {ty : TypeId} {pos : String} {aft} {gd} {n : Nat} {ls : Array Bool} {a : Act} {w : World} (hi : ops[i]? = some ⟨d, op, ty, pos, aft, gd⟩)
    (hs : Region.noSelect ops = true) (hf : Region.free md ops ls i = true) (hr : (Region.ready md ops ls).contains i = true) (hh : (Region.sinkB md ops N && Region.chainB md ops N && decide (N < ops.size) && decide (i < N) && headB md ops N ls) = true)
    (hQ : ∀ c a w, Q (.panic c) (a.put d v) w → Q (.panic c) a w) (hy : YieldsIf P ops S ⟨d, op, ty, pos, aft, gd⟩ v a) (hS : S w)
    (h : wpLast P md ops Q S N n (ls.setIfInBounds i true) (a.put d v) w) : wpLast P md ops Q S N (n + 1) ls a w :=
  by
  simp only [Bool.and_eq_true, decide_eq_true_eq] at hh
  obtain ⟨⟨⟨⟨h1, h2⟩, h3⟩, h4⟩, h5⟩ := hh
  exact wpLast_front hi hs hQ h1 h2 h3 h4 n ls a w (headB_inv h5) (Region.free_spec hi hf) (by simpa using hr) hy hS h
theorem wpLast_one {N i n : Nat} {o : Oper} {ls : Array Bool} {a : Act} {w : World} (hr : Region.ready md ops ls = [i]) (ho : ops[i]? = some o)
    (h : ∀ K : Act → World → Prop, Shut (∀ b z, (i < N → S z) → wpLast P md ops Q S N n (ls.setIfInBounds i true) b z → K b z) → if Region.wanted o (yielded ops a.tmps) = true then Oper.wp P o a w K Q else K (a.put o.dst undef) w) : wpLast P md ops Q S N (n + 1) ls a w := by
  refine ⟨fun e => absurd (hr ▸ e) (by simp), fun j hj => ?_⟩
  rw [hr] at hj
  obtain rfl := List.mem_singleton.1 hj
  exact wpOp_step ho (fun K hK => h K (fun b z h1 h2 => hK b z ⟨h1, h2⟩))
theorem wpLast_done {N : Nat} {ls : Array Bool} {a : Act} {w : World} (hr : Region.ready md ops ls = []) (h : Q .normal a w) : ∀ n, wpLast P md ops Q S N n ls a w
  | 0 => ⟨hr, h⟩
  | _ + 1 => ⟨fun _ => h, by rw [hr]; simp⟩
theorem wp_region_last {id : Nat} (N : Nat) {a : Act} {w : World} (hm : P.follows .mixedOrders = true) (h : wpLast P .any ops Q S N ops.size (Array.replicate ops.size false) a w.drew) : (Code.region id ops true).wp P Q a w := wp_region_any hm (wpLast_any h)
end

end Go.Proofs.Ytblfbmdnkgebdaa.Dn

/-
  A net that grows: what lies in memory while terms are laid.
-/
namespace Go.Proofs.Ytblfbmdnkgebdaa.Dn
open Go.RowKit Go.Maps

theorem row_slice {W : World} {base size n : Nat} {e : TypeId} {v : Value} {xs : List Value} (h : W.ownsRow base e size v n xs) : ∃ a c, v = .slice a n c := by
  obtain ⟨_, r⟩ := h
  rcases r with ⟨h1, h2⟩ | ⟨g, cap, cur, h1, _⟩
  · exact ⟨none, 0, by rw [h1]; simp_all⟩
  · exact ⟨_, _, h1⟩


theorem row_keep {n0 : Nat} {W W' : World} {ty : TypeId} {k : Nat} {fv : Value} {n : Nat} {vs : List Value} (h : W.ownsRow n0 ty k fv n vs) (hB : ∀ g, fv.ownBlock = some g → W'.heap[g]? = W.heap[g]?) : W'.ownsRow n0 ty k fv n vs := by
  obtain ⟨h1, h2⟩ := h
  refine ⟨h1, ?_⟩
  rcases h2 with h2 | ⟨g, cap, cur, e, hb, hg, r⟩
  · exact .inl h2
  · exact .inr ⟨g, cap, cur, e, hb, (hB g (by rw [e]; rfl)).trans hg, r⟩
theorem row_block {W : World} {n0 : Nat} {ty : TypeId} {k : Nat} {fv : Value} {n : Nat} {vs : List Value} (h : W.ownsRow n0 ty k fv n vs) {g : Nat} (hg : fv.ownBlock = some g) : n0 ≤ g ∧ ∃ cur, W.heap[g]? = some (.cells cur ty (0, 0)) := by
  obtain ⟨_, ⟨e, _⟩ | ⟨g', cap, cur, e, hb, hg', _⟩⟩ := h
  · rw [e] at hg; cases hg
  · rw [e] at hg
    have : g' = g := by simpa [Value.ownBlock] using hg
    subst this
    exact ⟨hb, cur, hg'⟩


/-- The cells of nodes, each its own top. -/
def flN : List (Nd × Value) → Nat → List Value
  | [], _ => []
  | x :: r, i => ncs x.1.v x.1.fn x.2 i ++ flN r (i + 1)
theorem flN_len : ∀ (L : List (Nd × Value)) (i : Nat), (flN L i).length = L.length * 4
  | [], _ => rfl
  | x :: r, i => by simp only [flN, List.length_append, flN_len r, ncs, List.length_cons, List.length_nil]; omega
theorem flN_app : ∀ (L M : List (Nd × Value)) (i : Nat), flN (L ++ M) i = flN L i ++ flN M (i + L.length)
  | [], M, i => by simp [flN]
  | x :: r, M, i => by
    simp only [List.cons_append, flN, flN_app r M (i + 1), List.append_assoc, List.length_cons]
    rw [show i + 1 + r.length = i + (r.length + 1) by omega]
theorem flN_snoc (L : List (Nd × Value)) (d : Nd) (s : Value) : flN (L ++ [(d, s)]) 0 = flN L 0 ++ ncs d.v d.fn s L.length := by
  rw [flN_app]
  simp [flN]
theorem flN_get : ∀ (L : List (Nd × Value)) (k i : Nat) (x : Nd × Value), L[i]? = some x → (flN L k)[i * 4]? = some (.int .i64 x.1.v) ∧ (flN L k)[i * 4 + 1]? = some (.string x.1.fn) ∧ (flN L k)[i * 4 + 2]? = some x.2 ∧ (flN L k)[i * 4 + 3]? = some (.int .i64 ((k + i : Nat) : Nat))
  | y :: r, k, 0, x, h => by
    obtain rfl : y = x := by simpa using h
    exact ⟨rfl, rfl, rfl, rfl⟩
  | y :: r, k, i + 1, x, h => by
    have ih := flN_get r (k + 1) i x (by simpa using h)
    have e : ∀ j, (flN (y :: r) k)[(i + 1) * 4 + j]? = (flN r (k + 1))[i * 4 + j]? := fun j => by
      show (ncs y.1.v y.1.fn y.2 k ++ flN r (k + 1))[(i + 1) * 4 + j]? = _
      rw [List.getElem?_append_right (by simp [ncs]; omega)]
      congr 1
      simp [ncs]
      omega
    have e0 := e 0
    simp only [Nat.add_zero] at e0
    rw [e0, e 1, e 2, e 3, show k + (i + 1) = k + 1 + i by omega]
    exact ih

def ob (v : Value) : List Nat := v.ownBlock.toList
theorem mem_ob {v : Value} {g : Nat} : g ∈ ob v ↔ v.ownBlock = some g := by
  unfold ob
  cases v.ownBlock <;> simp [eq_comm]

/-- A node that is right. -/
def NdOk (d : Nd) : Prop := (d.fn.size = 0 → 0 ≤ d.v ∧ d.v < 1000000 ∧ d.args = []) ∧ (d.fn.size ≠ 0 → d.v = 0 ∧ d.fn.size ≤ 64)
/-- Right nodes; of each variable but one. -/
structure Gd (L : List (Nd × Value)) : Prop where
  ok : ∀ x ∈ L, NdOk x.1
  uq : ∀ (i j : Nat) (x y : Nd × Value), L[i]? = some x → L[j]? = some y → x.1.fn.size = 0 → y.1.fn.size = 0 → x.1.v = y.1.v → i = j

theorem Gd.snoc {L : List (Nd × Value)} (h : Gd L) {x : Nd × Value} (hx : NdOk x.1) (hn : x.1.fn.size = 0 → ∀ y ∈ L, y.1.fn.size = 0 → y.1.v ≠ x.1.v) : Gd (L ++ [x]) := by
  refine ⟨fun y hy => ?_, fun i j y z hi hj fy fz e => ?_⟩
  · rcases List.mem_append.1 hy with hy | hy
    · exact h.ok y hy
    · obtain rfl := List.mem_singleton.1 hy; exact hx
  · have cs : ∀ (i : Nat) (y : Nd × Value), (L ++ [x])[i]? = some y → (L[i]? = some y ∧ i < L.length) ∨ (i = L.length ∧ y = x) := fun i y hi => by
      by_cases hl : i < L.length
      · rw [List.getElem?_append_left hl] at hi
        exact .inl ⟨hi, hl⟩
      · have h1 := (List.getElem?_eq_some_iff.1 hi).1
        rw [List.length_append, List.length_singleton] at h1
        have : i = L.length := by omega
        subst this
        simp at hi
        exact .inr ⟨rfl, hi.symm⟩
    rcases cs i y hi with ⟨hi2, _⟩ | ⟨hi2, ey⟩
    · rcases cs j z hj with ⟨hj2, _⟩ | ⟨hj2, ez⟩
      · exact h.uq i j y z hi2 hj2 fy fz e
      · rw [ez] at fz e
        exact absurd e (hn fz y (List.mem_of_getElem? hi2) fy)
    · rcases cs j z hj with ⟨hj2, _⟩ | ⟨hj2, ez⟩
      · rw [ey] at fy e
        exact absurd e.symm (hn fy z (List.mem_of_getElem? hj2) fz)
      · rw [hi2, hj2]

structure LayS (W0 W : World) (B base : Nat) (v : Value) (L : List (Nd × Value)) : Prop where
  bel : Below W0.heap.size W0 W
  ord : W0.heap.size ≤ B ∧ B < base ∧ base ≤ W.heap.size
  box : W.heap[B]? = some (.cells #[v] 56 (0, 0))
  row : W.ownsRow base 65 4 v L.length (flN L 0)
  ia : ∀ x ∈ L, IntsP (fun _ => True) W x.2 (ints x.1.args)
  ib : ∀ x ∈ L, ∀ b, x.2.ownBlock = some b → b < W.heap.size ∧ b ≠ B ∧ v.ownBlock ≠ some b
  lt : ∀ (i : Nat) (x : Nd × Value), L[i]? = some x → ∀ a ∈ x.1.args, a < i
  al : ∀ x ∈ L, x.1.args.length ≤ 16
  gd : Gd L

structure LayF (W W' : World) (B : Nat) (v v' : Value) : Prop where
  only : Only (B :: ob v) W W'
  blk : v'.ownBlock = v.ownBlock ∨ ∃ g, v'.ownBlock = some g ∧ W.heap.size ≤ g

theorem LayF.of_below {W W' : World} {B : Nat} {v : Value} (h : Below W.heap.size W W') : LayF W W' B v v := ⟨.of_below h, .inl rfl⟩

theorem IntsP.kept {W W' : World} {v : Value} {l : List Int} (h : IntsP (fun _ => True) W v l) (hs : W.heap.size ≤ W'.heap.size) (hk : ∀ b, v.ownBlock = some b → b < W.heap.size → W'.heap[b]? = W.heap[b]?) : IntsP (fun _ => True) W' v l := by
  obtain ⟨a, c, rfl, h1, h2, h3⟩ := h
  refine ⟨a, c, rfl, h1, h2, fun h0 => ?_⟩
  obtain ⟨b, o, rfl, hlt, _, h4⟩ := h3 h0
  refine ⟨b, o, rfl, by omega, trivial, fun i hi => ?_⟩
  rw [← h4 i hi]
  simp [World.cell?, hk b rfl hlt]

theorem LayS.vlt {W0 W : World} {B base : Nat} {v : Value} {L : List (Nd × Value)} (h : LayS W0 W B base v L) {g : Nat} (hg : v.ownBlock = some g) : base ≤ g ∧ g < W.heap.size := by
  obtain ⟨h1, cq, hq⟩ := row_block h.row hg
  exact ⟨h1, (Array.getElem?_eq_some_iff.1 hq).1⟩

/-- Kept where the blocks of the net are. -/
theorem LayS.kept {W0 W W' : World} {B base : Nat} {v : Value} {L : List (Nd × Value)} (h : LayS W0 W B base v L) {l : List Nat} (hb : Only l W W') (h1 : B ∉ l) (h2 : ∀ g, v.ownBlock = some g → g ∉ l) (h3 : ∀ g ∈ l, W0.heap.size ≤ g) (h4 : ∀ x ∈ L, ∀ b, x.2.ownBlock = some b → b ∉ l) : LayS W0 W' B base v L := by
  obtain ⟨o1, o2, o3⟩ := h.ord
  have hs := hb.size
  refine ⟨h.bel.trans (hb.below h.bel.size h3), ⟨o1, o2, by omega⟩, (hb.block B (by omega) h1).trans h.box, row_keep h.row (fun g hg => ?_), fun x hx => ?_, fun x hx b hbx => ?_, h.lt, h.al, h.gd⟩
  · exact hb.block g (h.vlt hg).2 (h2 g hg)
  · exact (h.ia x hx).kept hs (fun b hbx hlt => hb.block b hlt (h4 x hx b hbx))
  · obtain ⟨k1, k2, k3⟩ := h.ib x hx b hbx
    exact ⟨by omega, k2, k3⟩

theorem LayS.keep {W0 W W' : World} {B base : Nat} {v : Value} {L : List (Nd × Value)} (h : LayS W0 W B base v L) (hb : Below W.heap.size W W') : LayS W0 W' B base v L :=
  h.kept (Only.of_below (B := []) hb) (by simp) (by simp) (by simp) (by simp)

/-- What is read of a node. -/
theorem LayS.cells {W0 W : World} {B base : Nat} {v : Value} {L : List (Nd × Value)} (h : LayS W0 W B base v L) {i : Nat} {x : Nd × Value} (hi : L[i]? = some x) : ∃ g c, v = .slice (some ⟨g, 0, none⟩) L.length c ∧ W.cell? ⟨g, i * 4, none⟩ = some (.int .i64 x.1.v) ∧ W.cell? ⟨g, i * 4 + 1, none⟩ = some (.string x.1.fn) := by
  have hl := (List.getElem?_eq_some_iff.1 hi).1
  obtain ⟨hlen, ⟨e, h0⟩ | ⟨g, cap, cur, e, hb, hg, hc, hm, hsz, ht⟩⟩ := h.row
  · omega
  · obtain ⟨c0, c1, _, _⟩ := flN_get L 0 i x hi
    rw [← ht] at c0 c1
    refine ⟨g, cap, e, ?_, ?_⟩
    · rw [List.getElem?_take] at c0
      split at c0
      · simp [World.cell?, hg, c0, ← Array.getElem?_toList]
      · cases c0
    · rw [List.getElem?_take] at c1
      split at c1
      · simp [World.cell?, hg, c1, ← Array.getElem?_toList]
      · cases c1

theorem Rep.app {N M : List Nd} {i : Nat} {t : T} (h : Rep N i t) : Rep (N ++ M) i t := by
  induction h with
  | mk i t d h hf hv hl ha ih =>
    refine .mk i t d ?_ hf hv hl ih
    rw [List.getElem?_append_left (List.getElem?_eq_some_iff.1 h).1]
    exact h

/-- What laying gives. -/
def LayP (W0 W : World) (B base : Nat) (v : Value) (L : List (Nd × Value)) (t : T) (e : Ending) (W' : World) : Prop :=
  ∃ (i : Nat) (v' : Value) (L2 : List (Nd × Value)), e = .returned (.int .i64 (i : Nat)) ∧ LayS W0 W' B base v' (L ++ L2) ∧ LayF W W' B v v' ∧ Rep ((L ++ L2).map (·.1)) i t ∧ i < (L ++ L2).length ∧ (L2.length : Int) ≤ t.size ∧ (∀ x ∈ L2, ∀ b, x.2.ownBlock = some b → W.heap.size ≤ b) ∧ ∀ x ∈ L2, x.1.fn.size = 0 → Occ x.1.v t

/-- The loop over the arguments. -/
structure LayI (W0 W W3 : World) (B base : Nat) (v : Value) (L : List (Nd × Value)) (t : T) (s : Value) (k : Nat) (v' : Value) (L2 : List (Nd × Value)) (vv : Value) (ks : List Nat) (wr : World) : Prop where
  st : LayS W0 wr B base v' (L ++ L2)
  fr : Only ((W.heap.size + 1) :: B :: ob v) W3 wr
  blk : v'.ownBlock = v.ownBlock ∨ ∃ g, v'.ownBlock = some g ∧ W.heap.size + 2 ≤ g
  tb : wr.heap[W.heap.size]? = some (.cells #[.int .i64 t.v, .string t.fn, s] 24 (0, 0))
  nb : wr.heap[W.heap.size + 1]? = some (.cells #[.int .i64 t.v, .string t.fn, vv, .int .i64 0] 65 (0, 0))
  row : wr.ownsRow (W.heap.size + 2) 3 1 vv k (ks.map fun n => .int .i64 (n : Nat))
  ne : ∀ g, vv.ownBlock = some g → v'.ownBlock ≠ some g
  reps : ks.length = k ∧ ∀ (j : Nat) (h : j < ks.length), ks[j] < (L ++ L2).length ∧ ∀ x, t.args[j]? = some x → Rep ((L ++ L2).map (·.1)) ks[j] x
  len : (L2.length : Int) ≤ upto T.size t.args k
  nn : ∀ x ∈ L ++ L2, ∀ b, x.2.ownBlock = some b → b ≠ W.heap.size + 1 ∧ vv.ownBlock ≠ some b
  nw : ∀ x ∈ L2, ∀ b, x.2.ownBlock = some b → W.heap.size ≤ b
  oc : ∀ x ∈ L2, x.1.fn.size = 0 → ∃ a ∈ t.args, Occ x.1.v a

section
variable {W0 W W3 : World} {B base : Nat} {v : Value} {L : List (Nd × Value)} {t : T} {s : Value} {k : Nat} {v' : Value} {L2 : List (Nd × Value)} {vv : Value} {ks : List Nat} {wr : World}

theorem LayI.sizes (h : LayI W0 W W3 B base v L t s k v' L2 vv ks wr) : W.heap.size + 2 ≤ wr.heap.size := by
  have := (Array.getElem?_eq_some_iff.1 h.nb).1
  omega

/-- Neither box is the row's. -/
theorem LayI.vne (h : LayI W0 W W3 B base v L t s k v' L2 vv ks wr) (hv : ∀ g, v.ownBlock = some g → g < W.heap.size) : v'.ownBlock ≠ some W.heap.size ∧ v'.ownBlock ≠ some (W.heap.size + 1) := by
  rcases h.blk with e | ⟨g, e, hg⟩
  · refine ⟨fun e' => ?_, fun e' => ?_⟩ <;> (have := hv _ (e ▸ e'); omega)
  · refine ⟨fun e' => ?_, fun e' => ?_⟩ <;> (rw [e] at e'; injection e' with e'; omega)

theorem LayI.vvne (h : LayI W0 W W3 B base v L t s k v' L2 vv ks wr) : ∀ g, vv.ownBlock = some g → W.heap.size + 2 ≤ g := fun _g hg => (row_block h.row hg).1

/-- Kept by a call that lays an argument. -/
theorem LayI.after (h : LayI W0 W W3 B base v L t s k v' L2 vv ks wr) (hB : B < W.heap.size) (hv : ∀ g, v.ownBlock = some g → g < W.heap.size) {Z : World} {v5 : Value} (hf : LayF wr Z B v' v5) :
    Z.heap[W.heap.size]? = some (.cells #[.int .i64 t.v, .string t.fn, s] 24 (0, 0)) ∧ Z.heap[W.heap.size + 1]? = some (.cells #[.int .i64 t.v, .string t.fn, vv, .int .i64 0] 65 (0, 0)) ∧ Z.ownsRow (W.heap.size + 2) 3 1 vv k (ks.map fun n => .int .i64 (n : Nat)) := by
  have hz := h.sizes
  obtain ⟨n1, n2⟩ := h.vne hv
  refine ⟨?_, ?_, row_keep h.row (fun g hg => ?_)⟩
  · rw [hf.only.block _ (by omega) (by simp [mem_ob, n1]; omega)]; exact h.tb
  · rw [hf.only.block _ (by omega) (by simp [mem_ob, n2]; omega)]; exact h.nb
  · obtain ⟨hg2, cq, hq⟩ := row_block h.row hg
    exact hf.only.block g (Array.getElem?_eq_some_iff.1 hq).1 (by simp [mem_ob, h.ne g hg]; omega)
end

end Go.Proofs.Ytblfbmdnkgebdaa.Dn

/-
  Laying a term: the loop's start, round and end.
-/
namespace Go.Proofs.Ytblfbmdnkgebdaa.Dn
open Go.RowKit Go.Maps

section
variable {W0 W W3 : World} {B base : Nat} {v : Value} {L : List (Nd × Value)} {t : T} {s : Value} {k : Nat} {v' : Value} {L2 : List (Nd × Value)} {vv : Value} {ks : List Nat} {wr : World}

theorem LayI.start (h : LayS W0 W B base v L) (h3 : Below W.heap.size W W3) (tb : W3.heap[W.heap.size]? = some (.cells #[.int .i64 t.v, .string t.fn, s] 24 (0, 0))) (nb : W3.heap[W.heap.size + 1]? = some (.cells #[.int .i64 t.v, .string t.fn, .slice none 0 0, .int .i64 0] 65 (0, 0))) : LayI W0 W W3 B base v L t s 0 v [] (.slice none 0 0) [] W3 := by
  refine ⟨by simpa using h.keep h3, Only.refl _ _, .inl rfl, tb, nb, World.ownsRow_nil _ _ _ _, fun g hg => (by cases hg), ⟨rfl, fun j hj => (by simp at hj)⟩, (by simp [upto_zero]), fun x hx b hb => ?_, fun x hx => (by simp at hx), fun x hx => (by simp at hx)⟩
  have := (h.ib x (by simpa using hx) b hb).1
  refine ⟨by omega, fun e => by cases e⟩

theorem LayI.next (h : LayI W0 W W3 B base v L t s k v' L2 vv ks wr) (hk : k < t.args.length) (hB : B < W.heap.size) (hv : ∀ g, v.ownBlock = some g → g < W.heap.size) (h3 : W3.heap.size = W.heap.size + 2) (hw0 : W0.heap.size ≤ W.heap.size)
    {Wd W5 W7 : World} (hd : Below wr.heap.size wr Wd) {i : Nat} {v5 v7 : Value} {L5 : List (Nd × Value)} (hp : LayS W0 W5 B base v5 ((L ++ L2) ++ L5)) (hf : LayF Wd W5 B v' v5) (hr : Rep (((L ++ L2) ++ L5).map (·.1)) i t.args[k]) (hi : i < ((L ++ L2) ++ L5).length) (hl : (L5.length : Int) ≤ t.args[k].size) (hnw : ∀ x ∈ L5, ∀ b, x.2.ownBlock = some b → Wd.heap.size ≤ b) (hoc : ∀ x ∈ L5, x.1.fn.size = 0 → Occ x.1.v t.args[k])
    {bl : Obj} (hrow : W7.ownsRow (W.heap.size + 2) 3 1 v7 (k + 1) ((ks.map fun n => .int .i64 (n : Nat)) ++ [.int .i64 (i : Nat)])) (hg7 : (W5.alloc bl).grownBy W7 vv.ownBlock) (hb7 : v7.ownBlock = vv.ownBlock ∨ v7.ownBlock = some (W5.alloc bl).heap.size) :
    LayI W0 W W3 B base v L t s (k + 1) v5 (L2 ++ L5) v7 (ks ++ [i]) (W7.setCell ⟨W.heap.size + 1, 2, none⟩ v7) := by
  have hsz := h.sizes
  have hds := hd.size
  have h5s := hf.only.size
  obtain ⟨n1, n2⟩ := h.vne hv
  have hvv := h.vvne
  have vvlt : ∀ g, vv.ownBlock = some g → g < wr.heap.size := fun g hg => by
    obtain ⟨_, cq, hq⟩ := row_block h.row hg
    exact (Array.getElem?_eq_some_iff.1 hq).1
  have v'lt : ∀ g, v'.ownBlock = some g → g < wr.heap.size := fun g hg => (h.st.vlt hg).2
  have hfw : LayF wr W5 B v' v5 := ⟨(Only.of_below (B := B :: ob v') hd).trans hf.only (fun r hr => .inl hr), by
    rcases hf.blk with e | ⟨g, e, hg⟩
    · exact .inl e
    · exact .inr ⟨g, e, by omega⟩⟩
  obtain ⟨tb5, nb5, row5⟩ := h.after hB hv hfw
  have v5ne : ∀ g, v5.ownBlock = some g → g ≠ W.heap.size ∧ g ≠ W.heap.size + 1 ∧ vv.ownBlock ≠ some g := fun g hg => by
    rcases hf.blk with e | ⟨g', e, hg'⟩
    · rw [e] at hg
      exact ⟨fun e => n1 (by rw [← e]; exact hg), fun e => n2 (by rw [← e]; exact hg), fun e => h.ne g e hg⟩
    · obtain rfl : g' = g := by rw [e] at hg; injection hg
      exact ⟨by omega, by omega, fun e => by have := vvlt _ e; omega⟩
  obtain ⟨W6, hW6⟩ : ∃ X, W5.alloc bl = X := ⟨_, rfl⟩
  have b6 : Below W5.heap.size W5 W6 := by rw [← hW6]; exact below_box _ _
  rw [hW6] at hg7 hb7
  have h6s := b6.size
  have o7 : Only (ob vv) W6 W7 := Only.of_grown hg7 (fun r hr => mem_ob.2 hr)
  have h7s := o7.size
  have o8 := only_setCell W7 (W.heap.size + 1) 2 v7
  have oE : Only ((W.heap.size + 1) :: ob vv) W5 (W7.setCell ⟨W.heap.size + 1, 2, none⟩ v7) :=
    ((Only.of_below (B := (W.heap.size + 1) :: ob vv) b6).trans o7 (fun r hr => .inl (List.mem_cons_of_mem _ hr))).trans o8 (fun r hr => .inl (by simp at hr; simp [hr]))
  have xne : ∀ x ∈ (L ++ L2) ++ L5, ∀ b, x.2.ownBlock = some b → b ≠ W.heap.size + 1 ∧ vv.ownBlock ≠ some b := fun x hx b hb => by
    rcases List.mem_append.1 hx with hx | hx
    · exact h.nn x hx b hb
    · have := hnw x hx b hb
      exact ⟨by omega, fun e => by have := vvlt _ e; omega⟩
  have v7ge : ∀ g, v7.ownBlock = some g → W.heap.size + 2 ≤ g := fun g hg => (row_block hrow hg).1
  have nb7 : W7.heap[W.heap.size + 1]? = some (.cells #[.int .i64 t.v, .string t.fn, vv, .int .i64 0] 65 (0, 0)) := by
    rw [o7.block _ (by omega) (fun e => by have := hvv _ (mem_ob.1 e); omega), b6.block _ (by omega)]
    exact nb5
  have v5lt : ∀ g, v5.ownBlock = some g → g < W5.heap.size := fun g hg => (hp.vlt hg).2
  refine ⟨?_, ?_, ?_, ?_, ?_, ?_, ?_, ⟨by simp [h.reps.1], fun j hj => ?_⟩, ?_, ?_, ?_, ?_⟩
  · rw [← List.append_assoc]
    refine hp.kept oE ?_ (fun g hg hm => ?_) (fun g hg => ?_) (fun x hx b hb hm => ?_)
    · intro hm
      rcases List.mem_cons.1 hm with e | hm
      · omega
      · have := hvv _ (mem_ob.1 hm); omega
    · rcases List.mem_cons.1 hm with e | hm
      · exact (v5ne g hg).2.1 e
      · exact (v5ne g hg).2.2 (mem_ob.1 hm)
    · rcases List.mem_cons.1 hg with e | hm
      · omega
      · have := hvv _ (mem_ob.1 hm); omega
    · rcases List.mem_cons.1 hm with e | hm
      · exact (xne x hx b hb).1 e
      · exact (xne x hx b hb).2 (mem_ob.1 hm)
  · have f1 := h.fr.trans hfw.only (fun r hr => by
      rcases List.mem_cons.1 hr with e | hm
      · exact .inl (by simp [e])
      · rcases h.blk with e | ⟨g, e, hg⟩
        · rw [mem_ob, e] at hm
          exact .inl (by simp [mem_ob, hm])
        · rw [mem_ob, e] at hm
          injection hm with hm
          exact .inr (by omega))
    exact f1.trans oE (fun r hr => by
      rcases List.mem_cons.1 hr with e | hm
      · exact .inl (by simp [e])
      · have := hvv _ (mem_ob.1 hm)
        exact .inr (by omega))
  · rcases hf.blk with e | ⟨g, e, hg⟩
    · rw [e]; exact h.blk
    · exact .inr ⟨g, e, by omega⟩
  · rw [oE.block _ (by omega) (fun hm => by
      rcases List.mem_cons.1 hm with e | hm
      · omega
      · have := hvv _ (mem_ob.1 hm); omega)]
    exact tb5
  · rw [heap_setCell_same W7 (W.heap.size + 1) 2 _ 65 v7 nb7]
    rfl
  · rw [List.map_append]
    exact row_keep hrow (fun g hg => Below.heap_setCell _ _ _ g (by have := v7ge g hg; show g ≠ W.heap.size + 1; omega))
  · intro g hg e
    rcases hb7 with e7 | e7
    · rw [e7] at hg
      exact (v5ne g e).2.2 hg
    · rw [e7] at hg
      injection hg with hg
      have := v5lt g e
      omega
  · rw [← List.append_assoc]
    have hjl : j < ks.length ∨ j = ks.length := by simp at hj; omega
    rcases hjl with hj1 | rfl
    · rw [List.getElem_append_left hj1]
      obtain ⟨q1, q2⟩ := h.reps.2 j hj1
      refine ⟨by rw [List.length_append]; omega, fun x hx => ?_⟩
      rw [List.map_append]
      exact (q2 x hx).app
    · have e : (ks ++ [i])[ks.length] = i := by simp
      rw [e]
      refine ⟨hi, fun x hx => ?_⟩
      rw [h.reps.1, List.getElem?_eq_getElem hk] at hx
      cases hx
      exact hr
  · rw [upto_succ _ _ _ hk, List.length_append]
    have := h.len
    omega
  · rw [← List.append_assoc]
    intro x hx b hb
    refine ⟨(xne x hx b hb).1, fun e => ?_⟩
    rcases hb7 with e7 | e7
    · rw [e7] at e
      exact (xne x hx b hb).2 e
    · rw [e7] at e
      injection e with e
      have := (hp.ib x hx b hb).1
      omega
  · intro x hx b hb
    rcases List.mem_append.1 hx with hx | hx
    · exact h.nw x hx b hb
    · have := hnw x hx b hb
      omega
  · intro x hx hf
    rcases List.mem_append.1 hx with hx | hx
    · exact h.oc x hx hf
    · exact ⟨_, List.getElem_mem hk, hoc x hx hf⟩

theorem ints_of_row {Z : World} {b0 : Nat} {vv : Value} {ks : List Nat} (h : Z.ownsRow b0 3 1 vv ks.length (ks.map fun n => .int .i64 (n : Nat))) : IntsP (fun _ => True) Z vv (ints ks) := by
  obtain ⟨hlen, ⟨e, h0⟩ | ⟨g, cap, cur, e, hb, hg, hc, hm, hsz, ht⟩⟩ := h
  · subst e
    have : ks = [] := List.length_eq_zero_iff.1 h0
    subst this
    exact ⟨none, 0, rfl, Nat.le_refl _, by omega, fun h => absurd h (by simp)⟩
  · refine ⟨some ⟨g, 0, none⟩, cap, by rw [e]; simp, by simpa using hc, by unfold maxLen at hm; omega, fun h0 => ⟨g, 0, rfl, (Array.getElem?_eq_some_iff.1 hg).1, trivial, fun i hi => ?_⟩⟩
    have hi' : i < ks.length := by simpa using hi
    have hq : (ks.map fun n => Value.int .i64 (n : Nat))[i]? = some (.int .i64 (ks[i] : Nat)) := by simp [hi']
    rw [← ht, List.getElem?_take] at hq
    split at hq
    · simp [World.cell?, hg, hq, ← Array.getElem?_toList]
    · cases hq

theorem LayI.last (h : LayI W0 W W3 B base v L t s k v' L2 vv ks wr) (h16 : t.args.length ≤ 16) (hsh : t.shape = true) (hnew : t.fn.size = 0 → ∀ y ∈ L, y.1.fn.size = 0 → y.1.v ≠ t.v) (hk : k = t.args.length) (hB : B < W.heap.size) (hv : ∀ g, v.ownBlock = some g → g < W.heap.size) (h3 : Below W.heap.size W W3) (h3s : W3.heap.size = W.heap.size + 2) (hw0 : W0.heap.size ≤ W.heap.size)
    {Wd W7 : World} {v7 : Value} {bl : Obj} (hd : Only [W.heap.size + 1] wr Wd) (hrow : W7.ownsRow base 65 4 v7 ((L ++ L2).length + 1) (flN (L ++ L2) 0 ++ ncs t.v t.fn vv (L ++ L2).length)) (hg7 : (Wd.alloc bl).grownBy W7 v'.ownBlock) (hb7 : v7.ownBlock = v'.ownBlock ∨ v7.ownBlock = some (Wd.alloc bl).heap.size) :
    LayP W0 W B base v L t (.returned (.int .i64 ((L ++ L2).length : Nat))) (W7.setCell ⟨B, 0, none⟩ v7) := by
  have hsz := h.sizes
  have hds := hd.size
  obtain ⟨n1, n2⟩ := h.vne hv
  have hvv := h.vvne
  obtain ⟨W6, hW6⟩ : ∃ X, Wd.alloc bl = X := ⟨_, rfl⟩
  have b6 : Below Wd.heap.size Wd W6 := by rw [← hW6]; exact below_box _ _
  rw [hW6] at hg7 hb7
  have h6s := b6.size
  have o7 : Only (ob v') W6 W7 := Only.of_grown hg7 (fun r hr => mem_ob.2 hr)
  have h7s := o7.size
  have o8 := only_setCell W7 B 0 v7
  have v'lt : ∀ g, v'.ownBlock = some g → base ≤ g ∧ g < wr.heap.size := fun g hg => h.st.vlt hg
  have vvlt : ∀ g, vv.ownBlock = some g → g < wr.heap.size := fun g hg => by
    obtain ⟨_, cq, hq⟩ := row_block h.row hg
    exact (Array.getElem?_eq_some_iff.1 hq).1
  obtain ⟨o1, o2, o3⟩ := h.st.ord
  have oE : Only ((W.heap.size + 1) :: B :: ob v') wr (W7.setCell ⟨B, 0, none⟩ v7) :=
    ((((Only.refl ((W.heap.size + 1) :: B :: ob v') wr).trans hd (fun r hr => .inl (by simp at hr; simp [hr]))).trans (Only.of_below (B := []) b6) (by simp)).trans o7 (fun r hr => .inl (List.mem_cons_of_mem _ (List.mem_cons_of_mem _ hr)))).trans o8 (fun r hr => .inl (by simp at hr; simp [hr]))
  have hes := oE.size
  have v7ge : ∀ g, v7.ownBlock = some g → base ≤ g := fun g hg => (row_block hrow hg).1
  have v7ne : ∀ b, b < wr.heap.size → v'.ownBlock ≠ some b → v7.ownBlock ≠ some b := fun b hb h1 e => by
    rcases hb7 with e7 | e7
    · exact h1 (e7 ▸ e)
    · rw [e7] at e
      injection e with e
      omega
  have xk : ∀ x ∈ L ++ L2, ∀ b, x.2.ownBlock = some b → b ∉ (W.heap.size + 1) :: B :: ob v' := fun x hx b hb hm => by
    obtain ⟨k1, k2, k3⟩ := h.st.ib x hx b hb
    have k4 := (h.nn x hx b hb).1
    simp only [List.mem_cons, mem_ob] at hm
    rcases hm with e | e | e
    · exact k4 e
    · exact k2 e
    · exact k3 e
  have vk : ∀ g, vv.ownBlock = some g → g ∉ (W.heap.size + 1) :: B :: ob v' := fun g hg hm => by
    have := hvv g hg
    simp only [List.mem_cons, mem_ob] at hm
    rcases hm with e | e | e
    · omega
    · omega
    · exact h.ne g hg e
  have box7 : W7.heap[B]? = some (.cells #[v'] 56 (0, 0)) := by
    rw [o7.block _ (by omega) (fun e => by have := (v'lt _ (mem_ob.1 e)).1; omega), b6.block _ (by omega), hd.block _ (by omega) (by simp; omega)]
    exact h.st.box
  have hIE : IntsP (fun _ => True) (W7.setCell ⟨B, 0, none⟩ v7) vv (ints ks) := by
    have hrw := h.row
    rw [← h.reps.1] at hrw
    exact (ints_of_row hrw).kept hes (fun b hb hlt => oE.block b hlt (vk b hb))
  have hkl : ks.length = t.args.length := by rw [h.reps.1, hk]
  refine ⟨(L ++ L2).length, v7, L2 ++ [(⟨t.v, t.fn, ks⟩, vv)], rfl, ?_, ⟨?_, ?_⟩, ?_, ?_, ?_, ?_, ?_⟩
  · rw [← List.append_assoc]
    refine ⟨h.st.bel.trans (oE.below h.st.bel.size (fun r hr => ?_)), ⟨o1, o2, by omega⟩, ?_, ?_, fun x hx => ?_, fun x hx b hb => ?_, fun i x hx a ha => ?_, fun x hx => ?_, ?_⟩
    · simp only [List.mem_cons, mem_ob] at hr
      rcases hr with e | e | e
      · omega
      · omega
      · have := (v'lt _ e).1; omega
    · rw [heap_setCell_same W7 B 0 _ 56 v7 box7]
      rfl
    · rw [flN_snoc, List.length_append, List.length_singleton]
      exact row_keep hrow (fun g hg => Below.heap_setCell _ _ _ g (by have := v7ge g hg; show g ≠ B; omega))
    · rcases List.mem_append.1 hx with hx | hx
      · exact (h.st.ia x hx).kept hes (fun b hb hlt => oE.block b hlt (xk x hx b hb))
      · obtain rfl := List.mem_singleton.1 hx
        exact hIE
    · rcases List.mem_append.1 hx with hx | hx
      · obtain ⟨k1, k2, k3⟩ := h.st.ib x hx b hb
        exact ⟨by omega, k2, v7ne b k1 k3⟩
      · obtain rfl := List.mem_singleton.1 hx
        have l1 := vvlt b hb
        have l2 := hvv b hb
        exact ⟨by omega, by omega, v7ne b l1 (h.ne b hb)⟩
    · by_cases hil : i < (L ++ L2).length
      · rw [List.getElem?_append_left hil] at hx
        exact h.st.lt i x hx a ha
      · have hie : i = (L ++ L2).length := by
          have := (List.getElem?_eq_some_iff.1 hx).1
          rw [List.length_append, List.length_singleton] at this
          omega
        subst hie
        simp at hx
        subst hx
        obtain ⟨j, hj, rfl⟩ := List.getElem_of_mem ha
        exact (h.reps.2 j hj).1
    · rcases List.mem_append.1 hx with hx | hx
      · exact h.st.al x hx
      · obtain rfl := List.mem_singleton.1 hx
        show ks.length ≤ 16
        omega
    · refine h.st.gd.snoc ⟨fun h0 => ?_, fun h0 => ?_⟩ (fun h0 y hy fy => ?_)
      · have h0 : t.fn.size = 0 := h0
        rw [T.shape_eq, if_pos h0] at hsh
        simp only [Bool.and_eq_true, decide_eq_true_eq] at hsh
        exact ⟨hsh.1.1, hsh.1.2, List.length_eq_zero_iff.1 (by show ks.length = 0; rw [hkl]; exact hsh.2)⟩
      · have h0 : ¬ t.fn.size = 0 := h0
        rw [T.shape_eq, if_neg h0] at hsh
        simp only [Bool.and_eq_true, decide_eq_true_eq] at hsh
        exact ⟨hsh.1.1.1, hsh.1.1.2⟩
      · have h0 : t.fn.size = 0 := h0
        rcases List.mem_append.1 hy with hy | hy
        · exact hnew h0 y hy fy
        · obtain ⟨a, ha, _⟩ := h.oc y hy fy
          rw [T.shape_eq, if_pos h0] at hsh
          simp only [Bool.and_eq_true, decide_eq_true_eq] at hsh
          rw [List.length_eq_zero_iff.1 hsh.2] at ha
          cases ha
  · have f0 := (Only.of_below (B := B :: ob v) h3).trans h.fr (fun r hr => by
      rcases List.mem_cons.1 hr with e | hm
      · exact .inr (by omega)
      · exact .inl hm)
    exact f0.trans oE (fun r hr => by
      simp only [List.mem_cons, mem_ob] at hr
      rcases hr with e | e | e
      · exact .inr (by omega)
      · exact .inl (by simp [e])
      · rcases h.blk with e2 | ⟨g, e2, hg⟩
        · rw [e2] at e
          exact .inl (by simp [mem_ob, e])
        · rw [e2] at e
          injection e with e
          exact .inr (by omega))
  · rcases hb7 with e7 | e7
    · rw [e7]
      rcases h.blk with e2 | ⟨g, e2, hg⟩
      · exact .inl e2
      · exact .inr ⟨g, e2, by omega⟩
    · exact .inr ⟨_, e7, by omega⟩
  · rw [← List.append_assoc, List.map_append]
    refine .mk _ _ ⟨t.v, t.fn, ks⟩ (by simp) rfl (fun _ => rfl) (fun _ => hkl) (fun _ j a x ha hx => ?_)
    obtain ⟨hj, rfl⟩ := List.getElem?_eq_some_iff.1 ha
    exact ((h.reps.2 j hj).2 x hx).app
  · simp only [List.length_append, List.length_singleton]
    omega
  · rw [T.size_eq, ← upto_all T.size t.args k (by omega), List.length_append, List.length_singleton]
    have := h.len
    omega
  · intro x hx b hb
    rcases List.mem_append.1 hx with hx | hx
    · exact h.nw x hx b hb
    · obtain rfl := List.mem_singleton.1 hx
      have := hvv b hb
      omega
  · intro x hx hf
    rcases List.mem_append.1 hx with hx | hx
    · obtain ⟨a, ha, ho⟩ := h.oc x hx hf
      refine .sub t a ?_ ha ho
      cases hu : uvar t with
      | false => rfl
      | true =>
        have h0 : t.fn.size = 0 := by simpa [uvar] using hu
        rw [T.shape_eq, if_pos h0] at hsh
        simp only [Bool.and_eq_true, decide_eq_true_eq] at hsh
        rw [List.length_eq_zero_iff.1 hsh.2] at ha
        cases ha
    · obtain rfl := List.mem_singleton.1 hx
      exact .here t (by have hf : t.fn.size = 0 := hf; simp [uvar, hf]) rfl
end

end Go.Proofs.Ytblfbmdnkgebdaa.Dn

/-
  Laying a term that is a function.
-/
namespace Go.Proofs.Ytblfbmdnkgebdaa.Dn
open Go.RowKit Go.Maps
theorem Try.info3q : (Try.prog.info? 3).map (fun i => (i.zero, i.size, i.bytes)) = some (some (.int .i64 0), 1, 8) := by kernel_rfl


theorem Try.info65q : (Try.prog.info? 65).map (fun i => (i.zero, i.size, i.bytes)) = some (some (.agg #[.int .i64 0, .string ⟨#[]⟩, .slice none 0 0, .int .i64 0]), 4, 56) := by kernel_rfl

def LayAt (W0 : World) (t : T) : Prop := ∀ (W : World) (B base : Nat) (v : Value) (L : List (Nd × Value)) (s : Value), t.shape = true → LayS W0 W B base v L → ArgsAt W0 s t.args → (L.length : Int) + t.size ≤ 1048576 → Calls Try.prog 32 #[.pointer (some ⟨B, 0, none⟩), tval t s] W (LayP W0 W B base v L t)

theorem T.size_pos (t : T) : 0 < t.size := by
  induction t using T.ind with
  | _ t ih =>
    rw [T.size_eq]
    have : ∀ (m : List T), (∀ a ∈ m, 0 < a.size) → 0 ≤ (m.map T.size).sum := by
      intro m
      induction m with
      | nil => intro _; simp
      | cons a r ih2 =>
        intro h
        have h1 := h a (by simp)
        have h2 := ih2 (fun x hx => h x (by simp [hx]))
        simp only [List.map_cons, List.sum_cons]
        omega
    have := this t.args ih
    omega

theorem upto_le (l : List T) (k : Nat) : upto T.size l k ≤ (l.map T.size).sum := by
  have hp : ∀ (m : List T), 0 ≤ (m.map T.size).sum := by
    intro m
    induction m with
    | nil => simp
    | cons a r ih =>
      have := T.size_pos a
      simp only [List.map_cons, List.sum_cons]
      omega
  have h : (l.map T.size).sum = ((l.take k).map T.size).sum + ((l.drop k).map T.size).sum := by
    rw [← List.sum_append, ← List.map_append, List.take_append_drop]
  have := hp (l.drop k)
  unfold upto
  omega

theorem upto_lt (l : List T) (k : Nat) (hk : k < l.length) : upto T.size l k + l[k].size ≤ (l.map T.size).sum := by
  rw [← upto_succ _ _ _ hk]
  exact upto_le l (k + 1)

set_option maxRecDepth 100000 in
set_option maxHeartbeats 16000000 in
theorem lay_fn (W0 : World) (t : T) (ih : ∀ a ∈ t.args, LayAt W0 a) (h0 : t.fn.size ≠ 0) : LayAt W0 t := by
  intro W B base v L s hsh hS ha hsz
  have hdd : t.fn.toList.isEmpty = false := by rw [ba_isEmpty]; exact decide_eq_false h0
  have HShp : Hid (t.shape = true ∧ t.fn.size ≠ 0) := ⟨hsh, h0⟩
  rw [T.shape_eq, if_neg h0] at hsh
  simp only [Bool.and_eq_true, decide_eq_true_eq, List.all_eq_true] at hsh
  obtain ⟨⟨hx16, h16⟩, hshs⟩ := hsh
  have H16 : Hid (t.args.length ≤ 16) := h16
  have HSh : Hid (∀ a ∈ t.args, a.shape = true) := hshs
  have HSz : Hid ((L.length : Int) + t.size ≤ 1048576) := hsz
  have HIH : Hid (∀ a ∈ t.args, LayAt W0 a) := ih
  have HAA : Hid (ArgsAt W0 s t.args) := ha
  have HB : Hid (B < W.heap.size) := (Array.getElem?_eq_some_iff.1 hS.box).1
  have HV : Hid (∀ g, v.ownBlock = some g → g < W.heap.size) := fun g hg => (hS.vlt hg).2
  have HW0 : Hid (W0.heap.size ≤ W.heap.size) := hS.bel.size
  obtain ⟨sa, sc, rfl, _, _⟩ := ha.slice
  obtain ⟨W1, h1⟩ : ∃ X, W.alloc (.cells #[.int .i64 t.v, .string t.fn, .slice sa t.args.length sc] 24) = X := ⟨_, rfl⟩
  have b1 : Below W.heap.size W W1 := by rw [← h1]; exact below_box _ _
  have s1 : W1.heap.size = W.heap.size + 1 := by rw [← h1]; simp
  have tb1 : W1.heap[W.heap.size]? = some (.cells #[.int .i64 t.v, .string t.fn, .slice sa t.args.length sc] 24 (0, 0)) := by rw [← h1]; exact (MapKept.heap_alloc _ _).1
  have t1 : W1.cell? ⟨W.heap.size, 0, none⟩ = some (.int .i64 t.v) := cell_at tb1 rfl
  have t2 : W1.cell? ⟨W.heap.size, 1, none⟩ = some (.string t.fn) := cell_at tb1 rfl
  obtain ⟨W3, h3⟩ : ∃ X, W1.alloc (.cells #[.int .i64 t.v, .string t.fn, .slice none 0 0, .int .i64 0] 65) = X := ⟨_, rfl⟩
  have b3 : Below W1.heap.size W1 W3 := by rw [← h3]; exact below_box _ _
  have nb3 : W3.heap[W.heap.size + 1]? = some (.cells #[.int .i64 t.v, .string t.fn, .slice none 0 0, .int .i64 0] 65 (0, 0)) := by rw [← h3, ← s1]; exact (MapKept.heap_alloc _ _).1
  have tb3 := (b3.block _ (by omega)).trans tb1
  have hb3 : Below W.heap.size W W3 := b1.trans (b3.mono (by omega))
  have H0 : Hid (LayI W0 W W3 B base v L t (.slice sa t.args.length sc) 0 v [] (.slice none 0 0) [] W3) := LayI.start hS hb3 tb3 nb3
  have H3 : Hid (Below W.heap.size W W3) := hb3
  have H3s : Hid (W3.heap.size = W.heap.size + 2) := by show _ = _; rw [← h3]; simp [s1]
  have HS1 : Hid (W1.heap.size = W.heap.size + 1) := s1
  have HE1 : Hid (W.alloc (.cells #[.int .i64 t.v, .string t.fn, .slice sa t.args.length sc] 24) = W1) := h1
  have HE3 : Hid (W1.alloc (.cells #[.int .i64 t.v, .string t.fn, .slice none 0 0, .int .i64 0] 65) = W3) := h3
  clear hS ha hsz h0 ih h16 hshs hx16 b1 b3 hb3 tb3 nb3 tb1 h1 h3 t1 t2 s1
  go_enter Try.func32, Try.ntmps32
  go_wp2
  rw [HE1.out, HE3.out]
  clear HE1 HE3 HS1
  go_loopw [7] (fun vi wr => ∃ k : Nat, vi = .int .i64 k ∧ k ≤ t.args.length ∧ ∃ v' L2 vv ks, Hid (LayI W0 W W3 B base v L t (.slice sa t.args.length sc) k v' L2 vv ks wr)) (fun vi _ => t.args.length - (intOf vi).toNat)
  case atStart => exact ⟨0, rfl, Nat.zero_le _, _, _, _, _, H0⟩
  case round =>
    obtain ⟨k, rfl, hk, v', L2, vv, ks, HI⟩ := hrel
    have x2 : wr.cell? ⟨W.heap.size, 2, none⟩ = some (.slice sa t.args.length sc) := cell_at HI.out.tb rfl
    by_cases hlt : k < t.args.length
    · have hkI : (k : Int) < (t.args.length : Int) := by omega
      have hk0 : (0 : Int) ≤ (k : Int) := by omega
      have hlt' := hlt
      obtain ⟨b, o, sq, e1, hbl, c0, c1, c2, hsq⟩ := HAA.out.nth hlt
      cases e1
      obtain ⟨Wd, hWd⟩ : ∃ X, wr.drew = X := ⟨_, rfl⟩
      have hd : Below wr.heap.size wr Wd := by rw [← hWd]; exact (Below.refl _ wr).drew
      have hI := HI.out
      have sd : LayS W0 Wd B base v' (L ++ L2) := hI.st.keep hd
      have hbnd : ((L ++ L2).length : Int) + (t.args[k]).size ≤ 1048576 := by
        have h1 := hI.len
        have h2 := upto_lt t.args k hlt
        have h3 := HSz.out
        rw [T.size_eq] at h3
        simp only [List.length_append]
        omega
      have hcall := HIH.out t.args[k] (List.getElem_mem hlt) Wd B base v' (L ++ L2) sq (HSh.out _ (List.getElem_mem hlt)) sd hsq hbnd
      have hvn := hI.vne HV.out
      have hvv := hI.vvne
      have hbd := hd.size
      have hsz := hI.sizes
      have HX : Hid (∀ Z, Only (B :: (ob v' ++ ob vv)) Wd Z → Z.cell? ⟨W.heap.size + 1, 2, none⟩ = some vv ∧ Z.frozen? ⟨W.heap.size + 1, 2, none⟩ = false ∧ Z.cell? ⟨W.heap.size, 2, none⟩ = some (.slice (some ⟨b, o, none⟩) t.args.length sc) ∧ Z.cell? ⟨b, o + k * 3, none⟩ = some (.int .i64 t.args[k].v) ∧ Z.cell? ⟨b, o + k * 3 + 1, none⟩ = some (.string t.args[k].fn) ∧ Z.cell? ⟨b, o + k * 3 + 2, none⟩ = some sq) := fun Z hZ => by
        have hB := HB.out
        have hbw : Below W0.heap.size W0 Wd := sd.bel
        have hor := sd.ord
        have m1 : W.heap.size + 1 ∉ B :: (ob v' ++ ob vv) := fun hm => by
          simp only [List.mem_cons, List.mem_append, mem_ob] at hm
          rcases hm with e | e | e
          · omega
          · exact hvn.2 e
          · have := hvv _ e; omega
        have m0 : W.heap.size ∉ B :: (ob v' ++ ob vv) := fun hm => by
          simp only [List.mem_cons, List.mem_append, mem_ob] at hm
          rcases hm with e | e | e
          · omega
          · exact hvn.1 e
          · have := hvv _ e; omega
        have mb : b ∉ B :: (ob v' ++ ob vv) := fun hm => by
          simp only [List.mem_cons, List.mem_append, mem_ob] at hm
          rcases hm with e | e | e
          · omega
          · have := (hI.st.vlt e).1; omega
          · have := hvv _ e; have := HW0.out; omega
        have nb := (hZ.block _ (by omega) m1).trans ((hd.block _ (by omega)).trans hI.nb)
        have tb := (hZ.block _ (by omega) m0).trans ((hd.block _ (by omega)).trans hI.tb)
        have hbs := hbw.size
        refine ⟨cell_at nb rfl, by simp [World.frozen?, nb], cell_at tb rfl, ko hZ (by omega) mb (kc hbw hbl c0), ko hZ (by omega) mb (kc hbw hbl c1), ko hZ (by omega) mb (kc hbw hbl c2)⟩
      have HD : Hid (Below wr.heap.size wr Wd) := hd
      obtain ⟨qa, qc, rfl, _, _⟩ := hsq.slice
      obtain ⟨q, hq⟩ : ∃ q, t.args[k] = q := ⟨_, rfl⟩
      have HQ : Hid (t.args[k]'hlt' = q) := hq
      simp only [hq] at hcall HX
      obtain ⟨va, vc, rfl⟩ := row_slice hI.row
      have hHeld : Only (B :: (ob v' ++ ob (.slice va k vc))) Wd Wd := Only.refl _ _
      obtain ⟨i0, hi0, hz0, hz1, hz2⟩ := info_parts Try.info3q
      have HNE : Hid (W.heap.size + 2 ≤ wr.heap.size ∧ wr.heap.size ≤ Wd.heap.size ∧ B < W.heap.size) := ⟨hsz, hbd, HB.out⟩
      have HK16 : Hid (k < t.args.length ∧ t.args.length ≤ 16) := ⟨hlt', H16.out⟩
      clear c0 c1 c2 hsq hbnd sd hd hvn hvv hbd hsz hI hbl hq
      go_wp2
      refine wp_region_last 12 (S := fun Z => Only (B :: (ob v' ++ ob (.slice va k vc))) Wd Z) (by kernel_rfl) ?_
      rw [hWd]
      refine wpLast_take 0 (.pointer (some ⟨W.heap.size + 1, 2, none⟩)) rfl (by kernel_rfl) (by kernel_rfl) (by kernel_rfl) (by kernel_rfl) (fun _ _ _ h => h) (Or.inl ⟨by rfl, fun Z hZ => by go_simp⟩) (by assumption) ?_
      try simp only [Act.put, List.setIfInBounds_toArray, List.set_cons_zero, List.set_cons_succ]
      refine wpLast_take 1 (.slice va k vc) rfl (by kernel_rfl) (by kernel_rfl) (by kernel_rfl) (by kernel_rfl) (fun _ _ _ h => h) (Or.inl ⟨by rfl, fun Z hZ => by obtain ⟨y0, _, y1, y2, y3, y4⟩ := HX.out Z hZ; go_simp⟩) (by assumption) ?_
      try simp only [Act.put, List.setIfInBounds_toArray, List.set_cons_zero, List.set_cons_succ]
      refine wpLast_take 2 (.pointer (some ⟨B, 0, none⟩)) rfl (by kernel_rfl) (by kernel_rfl) (by kernel_rfl) (by kernel_rfl) (fun _ _ _ h => h) (Or.inl ⟨by rfl, fun Z hZ => by go_simp⟩) (by assumption) ?_
      try simp only [Act.put, List.setIfInBounds_toArray, List.set_cons_zero, List.set_cons_succ]
      refine wpLast_take 3 (.pointer (some ⟨W.heap.size, 2, none⟩)) rfl (by kernel_rfl) (by kernel_rfl) (by kernel_rfl) (by kernel_rfl) (fun _ _ _ h => h) (Or.inl ⟨by rfl, fun Z hZ => by go_simp⟩) (by assumption) ?_
      try simp only [Act.put, List.setIfInBounds_toArray, List.set_cons_zero, List.set_cons_succ]
      refine wpLast_take 4 (.slice (some ⟨b, o, none⟩) t.args.length sc) rfl (by kernel_rfl) (by kernel_rfl) (by kernel_rfl) (by kernel_rfl) (fun _ _ _ h => h) (Or.inl ⟨by rfl, fun Z hZ => by obtain ⟨y0, _, y1, y2, y3, y4⟩ := HX.out Z hZ; go_simp⟩) (by assumption) ?_
      try simp only [Act.put, List.setIfInBounds_toArray, List.set_cons_zero, List.set_cons_succ]
      refine wpLast_take 5 (.int .i64 (k : Nat)) rfl (by kernel_rfl) (by kernel_rfl) (by kernel_rfl) (by kernel_rfl) (fun _ _ _ h => h) (Or.inl ⟨by rfl, fun Z hZ => by go_simp⟩) (by assumption) ?_
      try simp only [Act.put, List.setIfInBounds_toArray, List.set_cons_zero, List.set_cons_succ]
      refine wpLast_take 6 (.pointer (some ⟨b, o + k * 3, none⟩)) rfl (by kernel_rfl) (by kernel_rfl) (by kernel_rfl) (by kernel_rfl) (fun _ _ _ h => h) (Or.inl ⟨by rfl, fun Z hZ => by go_simp⟩) (by assumption) ?_
      try simp only [Act.put, List.setIfInBounds_toArray, List.set_cons_zero, List.set_cons_succ]
      refine wpLast_take 7 (tval q (.slice qa q.args.length qc)) rfl (by kernel_rfl) (by kernel_rfl) (by kernel_rfl) (by kernel_rfl) (fun _ _ _ h => h) (Or.inl ⟨by rfl, fun Z hZ => by obtain ⟨y0, _, y1, y2, y3, y4⟩ := HX.out Z hZ; go_simp⟩) (by assumption) ?_
      try simp only [Act.put, List.setIfInBounds_toArray, List.set_cons_zero, List.set_cons_succ]
      refine wpLast_one (i := 8) (o := ⟨_, _, _, _, _, _⟩) (by kernel_rfl) rfl (fun KK hK => ?_)
      rw [if_pos (by rfl)]
      go_simp
      refine hcall.mono ?_
      rintro e W5 ⟨i, v5, L5, rfl, hp5, hf5, hr5, hi5, hl5, hn5, ho5⟩
      have S5 : Only (B :: (ob v' ++ ob (.slice va k vc))) Wd W5 := (Only.refl _ _).trans hf5.only (fun r hr => .inl (by
        rcases List.mem_cons.1 hr with e | hm
        · simp [e]
        · simp [hm]))
      refine hK.out _ _ (fun _ => S5) ?_
      clear hK KK
      try simp only [Act.put, List.setIfInBounds_toArray, List.set_cons_zero, List.set_cons_succ]
      refine wpLast_one (i := 9) (o := ⟨_, _, _, _, _, _⟩) (by kernel_rfl) rfl (fun KK hK => ?_)
      rw [if_pos (by rfl)]
      go_simp
      obtain ⟨W6, hW6⟩ : ∃ X, W5.alloc (.cells #[.int .i64 (i : Nat)] 3) = X := ⟨_, rfl⟩
      have b6 : Below W5.heap.size W5 W6 := by rw [← hW6]; exact below_box _ _
      have S6 : Only (B :: (ob v' ++ ob (.slice va k vc))) Wd W6 := S5.trans (Only.of_below (B := []) b6) (by simp)
      have c6 : ∀ j u, [Value.int .i64 (i : Nat)][j]? = some u → W6.cell? ((⟨W5.heap.size, 0, none⟩ : Addr).add j) = some u := by rw [← hW6]; exact cell_one_new _ _ _
      rw [hW6]
      refine hK.out _ _ (fun _ => S6) ?_
      clear hK KK
      try simp only [Act.put, List.setIfInBounds_toArray, List.set_cons_zero, List.set_cons_succ]
      have R6 : W6.ownsRow (W.heap.size + 2) 3 1 (.slice va k vc) k (ks.map fun n => .int .i64 (n : Nat)) := by
        obtain ⟨_, _, r5⟩ := HI.out.after HB.out HV.out (v5 := v5) ⟨(Only.of_below (B := B :: ob v') HD.out).trans hf5.only (fun r hr => .inl hr), by
          rcases hf5.blk with e | ⟨g, e, hg⟩
          · exact .inl e
          · exact .inr ⟨g, e, by have := HD.out.size; omega⟩⟩
        exact row_keep r5 (fun g hg => by
          obtain ⟨_, cq, hq⟩ := row_block r5 hg
          exact b6.block g (Array.getElem?_eq_some_iff.1 hq).1)
      have h5s := hf5.only.size
      have h6s := b6.size
      refine wpLast_one (i := 10) (o := ⟨_, _, _, _, _, _⟩) (by kernel_rfl) rfl (fun KK hK => ?_)
      have hK16 := HK16.out
      have hne := HNE.out
      refine step_append_own W6 rfl (.tmp 56) (.tmp 64) 59 rfl (W.heap.size + 2) 3 i0 _ 1 8 Try.underlying59 hi0 hz0 hz1 hz2 rfl (by decide) (.slice va k vc) k (ks.map fun n => .int .i64 (n : Nat)) rfl R6 ⟨W5.heap.size, 0, none⟩ 1 1 [.int .i64 (i : Nat)] rfl rfl c6 (by intro u hu; obtain rfl := List.mem_singleton.1 hu; rfl) (by unfold maxLen; omega) (by omega) (by omega) ?_
      intro v7 W7 hrow7 hg7 hb7
      have S7 : Only (B :: (ob v' ++ ob (.slice va k vc))) Wd W7 := S6.trans (Only.of_grown (B := ob (.slice va k vc)) hg7 (fun r hr => mem_ob.2 hr)) (fun r hr => .inl (by simp [hr]))
      refine hK.out _ _ (fun _ => S7) ?_
      clear hK KK
      try simp only [Act.put, List.setIfInBounds_toArray, List.set_cons_zero, List.set_cons_succ]
      refine wpLast_take 11 (.pointer (some ⟨W.heap.size + 1, 2, none⟩)) rfl (by kernel_rfl) (by kernel_rfl) (by kernel_rfl) (by kernel_rfl) (fun _ _ _ h => h) (Or.inl ⟨by rfl, fun Z hZ => by go_simp⟩) (by assumption) ?_
      try simp only [Act.put, List.setIfInBounds_toArray, List.set_cons_zero, List.set_cons_succ]
      obtain ⟨a7, c7, rfl⟩ := row_slice hrow7
      have HN : Hid (LayI W0 W W3 B base v L t (.slice (some ⟨b, o, none⟩) t.args.length sc) (k + 1) v5 (L2 ++ L5) (.slice a7 (k + 1) c7) (ks ++ [i]) (W7.setCell ⟨W.heap.size + 1, 2, none⟩ (.slice a7 (k + 1) c7))) :=
        LayI.next (bl := .cells #[.int .i64 (i : Nat)] 3) HI.out HK16.out.1 HB.out HV.out H3s.out HW0.out HD.out hp5 hf5 (by rw [HQ.out]; exact hr5) hi5 (by rw [HQ.out]; exact hl5) hn5 (by rw [HQ.out]; exact ho5) hrow7 (by rw [hW6]; exact hg7) (by rw [hW6]; exact hb7)
      obtain ⟨z0, z1, _⟩ := HX.out W7 S7
      clear hrow7 hg7 hb7 S7 S6 S5 c6 R6 hp5 hf5 hr5 hi5 hl5 hn5 ho5 b6 hW6 hcall h5s h6s hne hHeld hK16
      refine wpLast_one (i := 12) (o := ⟨_, _, _, _, _, _⟩) (by kernel_rfl) rfl (fun KK hK => ?_)
      rw [if_pos (by rfl)]
      go_simp
      refine hK.out _ _ (fun h => absurd h (by omega)) ?_
      clear hK KK
      refine wpLast_done (by kernel_rfl) ?_ _
      try simp only [Act.put]
      go_wp2
      go_roundw
      case rel => exact ⟨k + 1, by have := HK16.out; go_num, HK16.out.1, _, _, _, _, HN⟩
      case measure => have := HK16.out; simp [intOf]; omega
    · have hkI : ¬ (k : Int) < (t.args.length : Int) := by omega
      have hke : k = t.args.length := by omega
      have hI := HI.out
      obtain ⟨va, vc, rfl⟩ := row_slice hI.row
      obtain ⟨la, lc, rfl⟩ := row_slice hI.st.row
      have hB := HB.out
      have hvn := hI.vne HV.out
      have hsz := hI.sizes
      have hor := hI.st.ord
      obtain ⟨N, hN⟩ : ∃ n, (L ++ L2).length = n := ⟨_, rfl⟩
      have cb : wr.cell? ⟨B, 0, none⟩ = some (.slice la N lc) := by have := hI.st.box; rw [hN] at this; exact cell_at this rfl
      have fb : wr.frozen? ⟨B, 0, none⟩ = false := by simp [World.frozen?, hI.st.box]
      have cn : wr.cell? ⟨W.heap.size + 1, 3, none⟩ = some (.int .i64 0) := cell_at hI.nb rfl
      have fn : wr.frozen? ⟨W.heap.size + 1, 3, none⟩ = false := by simp [World.frozen?, hI.nb]
      obtain ⟨Wx, hWx⟩ : ∃ X, wr.setCell ⟨W.heap.size + 1, 3, none⟩ (.int .i64 (N : Nat)) = X := ⟨_, rfl⟩
      have nx : Wx.heap[W.heap.size + 1]? = some (.cells #[.int .i64 t.v, .string t.fn, .slice va k vc, .int .i64 (N : Nat)] 65 (0, 0)) := by
        rw [← hWx, heap_setCell_same wr (W.heap.size + 1) 3 _ 65 _ hI.nb]
        rfl
      have ox : Only [W.heap.size + 1] wr Wx := by rw [← hWx]; exact only_setCell _ _ _ _
      obtain ⟨Wd, hWd⟩ : ∃ X, Wx.drew = X := ⟨_, rfl⟩
      have hd : Below Wx.heap.size Wx Wd := by rw [← hWd]; exact (Below.refl _ Wx).drew
      have od : Only [W.heap.size + 1] wr Wd := ox.trans (Only.of_below (B := []) hd) (by simp)
      have ods := od.size
      have oxs := ox.size
      have vlt : ∀ g, (Value.slice la (L ++ L2).length lc).ownBlock = some g → base ≤ g ∧ g < wr.heap.size := fun g hg => hI.st.vlt hg
      rw [hN] at vlt hvn
      have nd : Wd.heap[W.heap.size + 1]? = some (.cells #[.int .i64 t.v, .string t.fn, .slice va k vc, .int .i64 (N : Nat)] 65 (0, 0)) := (hd.block _ (by omega)).trans nx
      have bd : Wd.heap[B]? = some (.cells #[.slice la N lc] 56 (0, 0)) := by rw [od.block _ (by omega) (by simp; omega)]; have := hI.st.box; rw [hN] at this; exact this
      have HX : Hid (∀ Z, Only (ob (.slice la N lc)) Wd Z → Z.heap[B]? = some (.cells #[.slice la N lc] 56 (0, 0)) ∧ Z.heap[W.heap.size + 1]? = some (.cells #[.int .i64 t.v, .string t.fn, .slice va k vc, .int .i64 (N : Nat)] 65 (0, 0))) := fun Z hZ => by
        refine ⟨(hZ.block _ (by omega) (fun hm => ?_)).trans bd, (hZ.block _ (by omega) (fun hm => ?_)).trans nd⟩
        · have := (vlt _ (mem_ob.1 hm)).1; omega
        · exact hvn.2 (mem_ob.1 hm)
      have RD : Wd.ownsRow base 65 4 (.slice la N lc) N (flN (L ++ L2) 0) := by
        have := hI.st.row
        rw [hN] at this
        exact row_keep this (fun g hg => od.block g (vlt g hg).2 (by simp; intro e; exact hvn.2 (e ▸ hg)))
      have HNb : Hid (N ≤ 1048576) := by
        have h1 := hI.len
        have h2 := upto_le t.args k
        have h3 := HSz.out
        rw [T.size_eq] at h3
        rw [List.length_append] at hN
        show N ≤ _
        omega
      have HNE : Hid (base ≤ Wd.heap.size ∧ W.heap.size + 1 ≠ B) := ⟨by omega, by omega⟩
      have HL : Hid (∀ (W7 : World) (v7 : Value) (bl : Obj), W7.ownsRow base 65 4 v7 (N + 1) (flN (L ++ L2) 0 ++ ncs t.v t.fn (.slice va k vc) N) → (Wd.alloc bl).grownBy W7 (Value.slice la N lc).ownBlock → (v7.ownBlock = (Value.slice la N lc).ownBlock ∨ v7.ownBlock = some (Wd.alloc bl).heap.size) → LayP W0 W B base v L t (.returned (.int .i64 (N : Nat))) (W7.setCell ⟨B, 0, none⟩ v7)) := fun W7 v7 bl q1 q2 q3 => by
        have := LayI.last (bl := bl) (v7 := v7) (W7 := W7) hI H16.out HShp.out.1 (fun h => absurd h HShp.out.2) hke HB.out HV.out H3.out H3s.out HW0.out od
        rw [hN] at this
        exact this q1 q2 q3
      have hHeld : Only (ob (.slice la N lc)) Wd Wd := Only.refl _ _
      obtain ⟨i0, hi0, hz0, hz1, hz2⟩ := info_parts Try.info65q
      clear hI hvn hsz hor nx ox hd od ods oxs vlt nd bd HI hN hke
      go_wp2
      try rw [hWx]
      refine wp_region_last 10 (S := fun Z => Only (ob (.slice la N lc)) Wd Z) (by kernel_rfl) ?_
      rw [hWd]
      refine wpLast_take 0 (.pointer (some ⟨B, 0, none⟩)) rfl (by kernel_rfl) (by kernel_rfl) (by kernel_rfl) (by kernel_rfl) (fun _ _ _ h => h) (Or.inl ⟨by rfl, fun Z hZ => by go_simp⟩) (by assumption) ?_
      try simp only [Act.put, List.setIfInBounds_toArray, List.set_cons_zero, List.set_cons_succ]
      refine wpLast_take 1 (.pointer (some ⟨B, 0, none⟩)) rfl (by kernel_rfl) (by kernel_rfl) (by kernel_rfl) (by kernel_rfl) (fun _ _ _ h => h) (Or.inl ⟨by rfl, fun Z hZ => by go_simp⟩) (by assumption) ?_
      try simp only [Act.put, List.setIfInBounds_toArray, List.set_cons_zero, List.set_cons_succ]
      refine wpLast_take 2 (.pointer (some ⟨B, 0, none⟩)) rfl (by kernel_rfl) (by kernel_rfl) (by kernel_rfl) (by kernel_rfl) (fun _ _ _ h => h) (Or.inl ⟨by rfl, fun Z hZ => by go_simp⟩) (by assumption) ?_
      try simp only [Act.put, List.setIfInBounds_toArray, List.set_cons_zero, List.set_cons_succ]
      refine wpLast_take 3 (.pointer (some ⟨B, 0, none⟩)) rfl (by kernel_rfl) (by kernel_rfl) (by kernel_rfl) (by kernel_rfl) (fun _ _ _ h => h) (Or.inl ⟨by rfl, fun Z hZ => by go_simp⟩) (by assumption) ?_
      try simp only [Act.put, List.setIfInBounds_toArray, List.set_cons_zero, List.set_cons_succ]
      refine wpLast_take 4 (.slice la N lc) rfl (by kernel_rfl) (by kernel_rfl) (by kernel_rfl) (by kernel_rfl) (fun _ _ _ h => h) (Or.inl ⟨by rfl, fun Z hZ => by obtain ⟨y0, _⟩ := HX.out Z hZ; have y1 := cell_at y0 (o := 0) rfl; go_simp⟩) (by assumption) ?_
      try simp only [Act.put, List.setIfInBounds_toArray, List.set_cons_zero, List.set_cons_succ]
      refine wpLast_take 5 (nval t.v t.fn (.slice va k vc) N) rfl (by kernel_rfl) (by kernel_rfl) (by kernel_rfl) (by kernel_rfl) (fun _ _ _ h => h) (Or.inl ⟨by rfl, fun Z hZ => by obtain ⟨_, y0⟩ := HX.out Z hZ; have y1 := cell_at y0 (o := 0) rfl; have y2 := cell_at y0 (o := 1) rfl; have y3 := cell_at y0 (o := 2) rfl; have y4 := cell_at y0 (o := 3) rfl; go_simp⟩) (by assumption) ?_
      try simp only [Act.put, List.setIfInBounds_toArray, List.set_cons_zero, List.set_cons_succ]
      refine wpLast_one (i := 6) (o := ⟨_, _, _, _, _, _⟩) (by kernel_rfl) rfl (fun KK hK => ?_)
      rw [if_pos (by rfl)]
      go_simp
      obtain ⟨W6, hW6⟩ : ∃ X, Wd.alloc (.cells #[.int .i64 t.v, .string t.fn, .slice va k vc, .int .i64 (N : Nat)] 65) = X := ⟨_, rfl⟩
      have b6 : Below Wd.heap.size Wd W6 := by rw [← hW6]; exact below_box _ _
      have n6 : W6.heap[Wd.heap.size]? = some (.cells #[.int .i64 t.v, .string t.fn, .slice va k vc, .int .i64 (N : Nat)] 65 (0, 0)) := by rw [← hW6]; exact (MapKept.heap_alloc _ _).1
      have S6 : Only (ob (.slice la N lc)) Wd W6 := Only.of_below b6
      have R6 := row_keep RD (W' := W6) (fun g hg => by
        obtain ⟨_, cq, hq⟩ := row_block RD hg
        exact b6.block g (Array.getElem?_eq_some_iff.1 hq).1)
      rw [hW6]
      refine hK.out _ _ (fun _ => S6) ?_
      clear hK KK
      try simp only [Act.put, List.setIfInBounds_toArray, List.set_cons_zero, List.set_cons_succ]
      refine wpLast_one (i := 7) (o := ⟨_, _, _, _, _, _⟩) (by kernel_rfl) rfl (fun KK hK => ?_)
      have hne := HNE.out
      have hnb := HNb.out
      have h6s := b6.size
      refine step_append_own W6 rfl (.tmp 77) (.tmp 79) 54 rfl base 65 i0 _ 4 56 Try.underlying54 hi0 hz0 hz1 hz2 rfl (by decide) (.slice la N lc) N (flN (L ++ L2) 0) rfl R6 ⟨Wd.heap.size, 0, none⟩ 1 1 (ncs t.v t.fn (.slice va k vc) N) rfl rfl (fun j u hj => by rw [Addr.add_mid, Nat.zero_add]; exact cell_at n6 (by simpa [ncs] using hj)) (ones4 _ _ _ _ _ _) (by unfold maxLen; omega) (by omega) (by omega) ?_
      intro v7 W7 hrow7 hg7 hb7
      have S7 : Only (ob (.slice la N lc)) Wd W7 := S6.trans (Only.of_grown (B := ob (.slice la N lc)) hg7 (fun r hr => mem_ob.2 hr)) (fun r hr => .inl hr)
      refine hK.out _ _ (fun _ => S7) ?_
      clear hK KK
      try simp only [Act.put, List.setIfInBounds_toArray, List.set_cons_zero, List.set_cons_succ]
      refine wpLast_take 8 (.pointer (some ⟨B, 0, none⟩)) rfl (by kernel_rfl) (by kernel_rfl) (by kernel_rfl) (by kernel_rfl) (fun _ _ _ h => h) (Or.inl ⟨by rfl, fun Z hZ => by go_simp⟩) (by assumption) ?_
      try simp only [Act.put, List.setIfInBounds_toArray, List.set_cons_zero, List.set_cons_succ]
      refine wpLast_take 9 (.pointer (some ⟨B, 0, none⟩)) rfl (by kernel_rfl) (by kernel_rfl) (by kernel_rfl) (by kernel_rfl) (fun _ _ _ h => h) (Or.inl ⟨by rfl, fun Z hZ => by go_simp⟩) (by assumption) ?_
      try simp only [Act.put, List.setIfInBounds_toArray, List.set_cons_zero, List.set_cons_succ]
      obtain ⟨a7, c7, rfl⟩ := row_slice hrow7
      have HF : Hid (LayP W0 W B base v L t (.returned (.int .i64 (N : Nat))) (W7.setCell ⟨B, 0, none⟩ (.slice a7 (N + 1) c7))) := HL.out W7 _ _ hrow7 (by rw [hW6]; exact hg7) (by rw [hW6]; exact hb7)
      obtain ⟨z0, z1⟩ := HX.out W7 S7
      have y0 : W7.cell? ⟨B, 0, none⟩ = some (.slice la N lc) := cell_at z0 rfl
      have y1 : W7.frozen? ⟨B, 0, none⟩ = false := by simp [World.frozen?, z0]
      have y2 : (W7.setCell ⟨B, 0, none⟩ (.slice a7 (N + 1) c7)).cell? ⟨W.heap.size + 1, 3, none⟩ = some (.int .i64 (N : Nat)) := by
        refine cell_at (b := W.heap.size + 1) (o := 3) (l := #[.int .i64 t.v, .string t.fn, .slice va k vc, .int .i64 (N : Nat)]) ((Below.heap_setCell _ _ _ _ ?_).trans z1) rfl
        exact HNE.out.2
      clear hrow7 hg7 hb7 S7 S6 R6 RD b6 n6 hW6 z0 z1 hne h6s hHeld
      refine wpLast_one (i := 10) (o := ⟨_, _, _, _, _, _⟩) (by kernel_rfl) rfl (fun KK hK => ?_)
      rw [if_pos (by rfl)]
      go_simp
      obtain ⟨We, hWe⟩ : ∃ X, W7.setCell ⟨B, 0, none⟩ (.slice a7 (N + 1) c7) = X := ⟨_, rfl⟩
      rw [hWe] at y2 HF ⊢
      refine hK.out _ _ (fun h => absurd h (by omega)) ?_
      clear hK KK hWe
      refine wpLast_done (by kernel_rfl) ?_ _
      try simp only [Act.put]
      go_wp2
      refine bodyPost_ret (v := .int .i64 (N : Nat)) (by simp [results, Try.results32, go_sem]) rfl ?_
      exact HF.out

end Go.Proofs.Ytblfbmdnkgebdaa.Dn

/-
  Laying a variable; laying any term.
-/
namespace Go.Proofs.Ytblfbmdnkgebdaa.Dn
open Go.RowKit Go.Maps

theorem below_dn (w : World) (n : Nat) : Below w.heap.size w (w.drewN n) := ⟨rfl, rfl, rfl, Nat.le_refl _, fun _ _ => rfl⟩
theorem ba_zero {a b : ByteArray} (ha : a.size = 0) (hb : b.size = 0) : a = b := by
  apply ba_toList_inj.1
  have e : ∀ (c : ByteArray), c.size = 0 → c.toList = [] := fun c hc => by
    have : c.toList.isEmpty = true := by rw [ba_isEmpty, hc]; rfl
    simpa using this
  rw [e a ha, e b hb]

theorem layP_found {W0 W W' : World} {B base : Nat} {v : Value} {L : List (Nd × Value)} {t : T} {i : Nat} {x : Nd × Value} (hS : LayS W0 W B base v L) (hb : Below W.heap.size W W') (hx : L[i]? = some x) (h0 : t.fn.size = 0) (hf : x.1.fn.size = 0) (hvv : x.1.v = t.v) : LayP W0 W B base v L t (.returned (.int .i64 (i : Nat))) W' := by
  refine ⟨i, v, [], rfl, by simpa using hS.keep hb, LayF.of_below hb, ?_, ?_, ?_, fun x hx => (by simp at hx), fun x hx => (by simp at hx)⟩
  · refine .mk i t x.1 (by simp [hx]) (ba_zero hf h0) (fun _ => hvv) (fun h => absurd h0 h) (fun h => absurd h0 h)
  · simpa using (List.getElem?_eq_some_iff.1 hx).1
  · have := T.size_pos t
    simp
    omega

set_option maxRecDepth 100000 in
set_option maxHeartbeats 16000000 in
theorem lay_var (W0 : World) (t : T) (h0 : t.fn.size = 0) : LayAt W0 t := by
  intro W B base v L s hsh hS ha hsz
  have hdd : t.fn.toList.isEmpty = true := by rw [ba_isEmpty, h0]; rfl
  have HShp : Hid (t.shape = true) := hsh
  rw [T.shape_eq, if_pos h0] at hsh
  simp only [Bool.and_eq_true, decide_eq_true_eq] at hsh
  have HVar : Hid (t.args.length = 0) := hsh.2
  have H16 : Hid (t.args.length ≤ 16) := by have := hsh.2; show _ ≤ _; omega
  have HSz : Hid ((L.length : Int) + t.size ≤ 1048576) := hsz
  have HF0 : Hid (t.fn.size = 0) := h0
  have HAA : Hid (ArgsAt W0 s t.args) := ha
  have HB : Hid (B < W.heap.size) := (Array.getElem?_eq_some_iff.1 hS.box).1
  have HV : Hid (∀ g, v.ownBlock = some g → g < W.heap.size) := fun g hg => (hS.vlt hg).2
  have HW0 : Hid (W0.heap.size ≤ W.heap.size) := hS.bel.size
  obtain ⟨sa, sc, rfl, _, _⟩ := ha.slice
  obtain ⟨W1, h1⟩ : ∃ X, W.alloc (.cells #[.int .i64 t.v, .string t.fn, .slice sa t.args.length sc] 24) = X := ⟨_, rfl⟩
  have b1 : Below W.heap.size W W1 := by rw [← h1]; exact below_box _ _
  have s1 : W1.heap.size = W.heap.size + 1 := by rw [← h1]; simp
  have tb1 : W1.heap[W.heap.size]? = some (.cells #[.int .i64 t.v, .string t.fn, .slice sa t.args.length sc] 24 (0, 0)) := by rw [← h1]; exact (MapKept.heap_alloc _ _).1
  have HS : Hid (LayS W0 W B base v L) := hS
  have HS1 : Hid (W1.heap.size = W.heap.size + 1) := s1
  have HB1 : Hid (Below W.heap.size W W1) := b1
  have HT1 : Hid (W1.heap[W.heap.size]? = some (.cells #[.int .i64 t.v, .string t.fn, .slice sa t.args.length sc] 24 (0, 0))) := tb1
  have HE1 : Hid (W.alloc (.cells #[.int .i64 t.v, .string t.fn, .slice sa t.args.length sc] 24) = W1) := h1
  have hLb : L.length ≤ 1048576 := by have := T.size_pos t; omega
  clear hS ha hsz h0 hsh b1 s1 tb1 h1
  go_enter Try.func32, Try.ntmps32
  go_wp2
  rw [HE1.out]
  clear HE1
  go_loopw [5] (fun vi wr => ∃ i : Nat, vi = .int .i64 i ∧ i ≤ L.length ∧ Hid (Below W1.heap.size W1 wr ∧ wr.heap.size = W1.heap.size ∧ ∀ (j : Nat) (x : Nd × Value), j < i → L[j]? = some x → x.1.fn.size = 0 → x.1.v ≠ t.v)) (fun vi _ => L.length - (intOf vi).toNat)
  case atStart => exact ⟨0, rfl, Nat.zero_le _, Below.refl _ _, rfl, fun j x hj => absurd hj (Nat.not_lt_zero _)⟩
  case round =>
    obtain ⟨i, rfl, hi, HI⟩ := hrel
    have hbw : Below W.heap.size W wr := HB1.out.trans (HI.out.1.mono HB1.out.size)
    have sW : LayS W0 wr B base v L := HS.out.keep hbw
    have tbw : wr.heap[W.heap.size]? = some (.cells #[.int .i64 t.v, .string t.fn, .slice sa t.args.length sc] 24 (0, 0)) := (HI.out.1.block _ (by have := HS1.out; omega)).trans HT1.out
    by_cases hlt : i < L.length
    · have hiI : (i : Int) < (L.length : Int) := by omega
      have hi0 : (0 : Int) ≤ (i : Int) := by omega
      obtain ⟨x, hx⟩ : ∃ x, L[i]? = some x := ⟨_, List.getElem?_eq_getElem hlt⟩
      obtain ⟨g, c, hvg, c0, c1⟩ := sW.cells hx
      have cx : wr.cell? ⟨B, 0, none⟩ = some (.slice (some ⟨g, 0, none⟩) L.length c) := by have := sW.box; rw [hvg] at this; exact cell_at this rfl
      have x0 : wr.cell? ⟨W.heap.size, 0, none⟩ = some (.int .i64 t.v) := cell_at tbw rfl
      have HX : Hid (L[i]? = some x) := hx
      have HBw : Hid (Below W.heap.size W wr) := hbw
      have HLt : Hid (i < L.length) := hlt
      clear hvg sW tbw hbw hx
      by_cases hf : x.1.fn.size = 0
      · have hf0 : x.1.fn.toList.isEmpty = true := by rw [ba_isEmpty, hf]; rfl
        by_cases hvv : x.1.v = t.v
        · rw [hvv] at c0
          have HR : Hid (∀ Z, Below wr.heap.size wr Z → LayP W0 W B base v L t (.returned (.int .i64 (i : Nat))) Z) := fun Z hZ => layP_found HS.out (HBw.out.trans (hZ.mono HBw.out.size)) HX.out HF0.out hf hvv
          clear hvv hf HI
          go_wp2
          go_quiet (fail)
          go_wp2
          refine bodyPost_ret (v := .int .i64 (i : Nat)) (by simp [results, Try.results32, go_sem]) rfl ?_
          exact HR.out _ (below_dn wr _)
        · have hvi : ¬ (x.1.v == t.v) = true := by simpa using hvv
          have HNew : Hid (∀ (j : Nat) (y : Nd × Value), j < i + 1 → L[j]? = some y → y.1.fn.size = 0 → y.1.v ≠ t.v) := fun j y hj hy hfy => by
            by_cases e : j = i
            · subst e; rw [HX.out] at hy; cases hy; exact hvv
            · exact HI.out.2.2 j y (by omega) hy hfy
          clear hvv hf
          go_wp2
          go_quiet (fail)
          go_wp2
          go_roundw
          case rel => exact ⟨i + 1, by go_num, HLt.out, HI.out.1.trans ((below_dn wr _).mono HI.out.1.size), HI.out.2.1, HNew.out⟩
          case measure => have := HLt.out; simp [intOf]; omega
      · have hf0 : x.1.fn.toList.isEmpty = false := by rw [ba_isEmpty]; exact decide_eq_false hf
        have HNew : Hid (∀ (j : Nat) (y : Nd × Value), j < i + 1 → L[j]? = some y → y.1.fn.size = 0 → y.1.v ≠ t.v) := fun j y hj hy hfy => by
          by_cases e : j = i
          · subst e; rw [HX.out] at hy; cases hy; exact absurd hfy hf
          · exact HI.out.2.2 j y (by omega) hy hfy
        clear hf
        go_wp2
        go_quiet (fail)
        go_wp2
        go_roundw
        case rel => exact ⟨i + 1, by go_num, HLt.out, HI.out.1.trans ((below_dn wr _).mono HI.out.1.size), HI.out.2.1, HNew.out⟩
        case measure => have := HLt.out; simp [intOf]; omega
    · have hiI : ¬ (i : Int) < (L.length : Int) := by omega
      have cx : ∃ va0 vc0, wr.cell? ⟨B, 0, none⟩ = some (.slice va0 L.length vc0) := by
        obtain ⟨va0, vc0, hv⟩ := row_slice sW.row
        exact ⟨va0, vc0, by have := sW.box; rw [hv] at this; exact cell_at this rfl⟩
      obtain ⟨va0, vc0, cx⟩ := cx
      have HNew : Hid (∀ y ∈ L, y.1.fn.size = 0 → y.1.v ≠ t.v) := fun y hy hfy => by
        obtain ⟨j, hj, rfl⟩ := List.getElem_of_mem hy
        exact HI.out.2.2 j _ (by omega) (List.getElem?_eq_getElem hj) hfy
      have hsw : wr.heap.size = W.heap.size + 1 := HI.out.2.1.trans HS1.out
      have x0 : wr.cell? ⟨W.heap.size, 0, none⟩ = some (.int .i64 t.v) := cell_at tbw rfl
      have x1 : wr.cell? ⟨W.heap.size, 1, none⟩ = some (.string t.fn) := cell_at tbw rfl
      obtain ⟨W3, h3⟩ : ∃ X, wr.alloc (.cells #[.int .i64 t.v, .string t.fn, .slice none 0 0, .int .i64 0] 65) = X := ⟨_, rfl⟩
      have b3 : Below wr.heap.size wr W3 := by rw [← h3]; exact below_box _ _
      have nb3 : W3.heap[W.heap.size + 1]? = some (.cells #[.int .i64 t.v, .string t.fn, .slice none 0 0, .int .i64 0] 65 (0, 0)) := by rw [← h3, ← hsw]; exact (MapKept.heap_alloc _ _).1
      have tb3 := (b3.block _ (by omega)).trans tbw
      have hb3 : Below W.heap.size W W3 := hbw.trans (b3.mono (by omega))
      have H0 : Hid (LayI W0 W W3 B base v L t (.slice sa t.args.length sc) 0 v [] (.slice none 0 0) [] W3) := LayI.start HS.out hb3 tb3 nb3
      have H3 : Hid (Below W.heap.size W W3) := hb3
      have H3s : Hid (W3.heap.size = W.heap.size + 2) := by show _ = _; rw [← h3]; simp [hsw]
      have HE3 : Hid (wr.alloc (.cells #[.int .i64 t.v, .string t.fn, .slice none 0 0, .int .i64 0] 65) = W3) := h3
      clear h3 b3 nb3 tb3 hb3 sW hbw HI tbw
      go_wp2
      try rw [HE3.out]
      try rw [hsw]
      clear HE3 x0 x1 cx hsw
      go_loopw [7] (fun vi wr => ∃ k : Nat, vi = .int .i64 k ∧ k ≤ t.args.length ∧ ∃ v' L2 vv ks, Hid (LayI W0 W W3 B base v L t (.slice sa t.args.length sc) k v' L2 vv ks wr)) (fun vi _ => t.args.length - (intOf vi).toNat)
      case atStart => exact ⟨0, rfl, Nat.zero_le _, _, _, _, _, H0⟩
      case round =>
        obtain ⟨k, rfl, hk, v', L2, vv, ks, HI⟩ := hrel
        have x2 : wr.cell? ⟨W.heap.size, 2, none⟩ = some (.slice sa t.args.length sc) := cell_at HI.out.tb rfl
        by_cases hlt : k < t.args.length
        · have hkI : (k : Int) < (t.args.length : Int) := by omega
          have hk0 : (0 : Int) ≤ (k : Int) := by omega
          have := HVar.out
          omega
        · have hkI : ¬ (k : Int) < (t.args.length : Int) := by omega
          have hke : k = t.args.length := by omega
          have hI := HI.out
          obtain ⟨va, vc, rfl⟩ := row_slice hI.row
          obtain ⟨la, lc, rfl⟩ := row_slice hI.st.row
          have hB := HB.out
          have hvn := hI.vne HV.out
          have hsz := hI.sizes
          have hor := hI.st.ord
          obtain ⟨N, hN⟩ : ∃ n, (L ++ L2).length = n := ⟨_, rfl⟩
          have cb : wr.cell? ⟨B, 0, none⟩ = some (.slice la N lc) := by have := hI.st.box; rw [hN] at this; exact cell_at this rfl
          have fb : wr.frozen? ⟨B, 0, none⟩ = false := by simp [World.frozen?, hI.st.box]
          have cn : wr.cell? ⟨W.heap.size + 1, 3, none⟩ = some (.int .i64 0) := cell_at hI.nb rfl
          have fn : wr.frozen? ⟨W.heap.size + 1, 3, none⟩ = false := by simp [World.frozen?, hI.nb]
          obtain ⟨Wx, hWx⟩ : ∃ X, wr.setCell ⟨W.heap.size + 1, 3, none⟩ (.int .i64 (N : Nat)) = X := ⟨_, rfl⟩
          have nx : Wx.heap[W.heap.size + 1]? = some (.cells #[.int .i64 t.v, .string t.fn, .slice va k vc, .int .i64 (N : Nat)] 65 (0, 0)) := by
            rw [← hWx, heap_setCell_same wr (W.heap.size + 1) 3 _ 65 _ hI.nb]
            rfl
          have ox : Only [W.heap.size + 1] wr Wx := by rw [← hWx]; exact only_setCell _ _ _ _
          obtain ⟨Wd, hWd⟩ : ∃ X, Wx.drew = X := ⟨_, rfl⟩
          have hd : Below Wx.heap.size Wx Wd := by rw [← hWd]; exact (Below.refl _ Wx).drew
          have od : Only [W.heap.size + 1] wr Wd := ox.trans (Only.of_below (B := []) hd) (by simp)
          have ods := od.size
          have oxs := ox.size
          have vlt : ∀ g, (Value.slice la (L ++ L2).length lc).ownBlock = some g → base ≤ g ∧ g < wr.heap.size := fun g hg => hI.st.vlt hg
          rw [hN] at vlt hvn
          have nd : Wd.heap[W.heap.size + 1]? = some (.cells #[.int .i64 t.v, .string t.fn, .slice va k vc, .int .i64 (N : Nat)] 65 (0, 0)) := (hd.block _ (by omega)).trans nx
          have bd : Wd.heap[B]? = some (.cells #[.slice la N lc] 56 (0, 0)) := by rw [od.block _ (by omega) (by simp; omega)]; have := hI.st.box; rw [hN] at this; exact this
          have HX : Hid (∀ Z, Only (ob (.slice la N lc)) Wd Z → Z.heap[B]? = some (.cells #[.slice la N lc] 56 (0, 0)) ∧ Z.heap[W.heap.size + 1]? = some (.cells #[.int .i64 t.v, .string t.fn, .slice va k vc, .int .i64 (N : Nat)] 65 (0, 0))) := fun Z hZ => by
            refine ⟨(hZ.block _ (by omega) (fun hm => ?_)).trans bd, (hZ.block _ (by omega) (fun hm => ?_)).trans nd⟩
            · have := (vlt _ (mem_ob.1 hm)).1; omega
            · exact hvn.2 (mem_ob.1 hm)
          have RD : Wd.ownsRow base 65 4 (.slice la N lc) N (flN (L ++ L2) 0) := by
            have := hI.st.row
            rw [hN] at this
            exact row_keep this (fun g hg => od.block g (vlt g hg).2 (by simp; intro e; exact hvn.2 (e ▸ hg)))
          have HNb : Hid (N ≤ 1048576) := by
            have h1 := hI.len
            have h2 := upto_le t.args k
            have h3 := HSz.out
            rw [T.size_eq] at h3
            rw [List.length_append] at hN
            show N ≤ _
            omega
          have HNE : Hid (base ≤ Wd.heap.size ∧ W.heap.size + 1 ≠ B) := ⟨by omega, by omega⟩
          have HL : Hid (∀ (W7 : World) (v7 : Value) (bl : Obj), W7.ownsRow base 65 4 v7 (N + 1) (flN (L ++ L2) 0 ++ ncs t.v t.fn (.slice va k vc) N) → (Wd.alloc bl).grownBy W7 (Value.slice la N lc).ownBlock → (v7.ownBlock = (Value.slice la N lc).ownBlock ∨ v7.ownBlock = some (Wd.alloc bl).heap.size) → LayP W0 W B base v L t (.returned (.int .i64 (N : Nat))) (W7.setCell ⟨B, 0, none⟩ v7)) := fun W7 v7 bl q1 q2 q3 => by
            have := LayI.last (bl := bl) (v7 := v7) (W7 := W7) hI H16.out HShp.out (fun _ => HNew.out) hke HB.out HV.out H3.out H3s.out HW0.out od
            rw [hN] at this
            exact this q1 q2 q3
          have hHeld : Only (ob (.slice la N lc)) Wd Wd := Only.refl _ _
          obtain ⟨i0, hi0, hz0, hz1, hz2⟩ := info_parts Try.info65q
          clear hI hvn hsz hor nx ox hd od ods oxs vlt nd bd HI hN hke
          go_wp2
          try rw [hWx]
          refine wp_region_last 10 (S := fun Z => Only (ob (.slice la N lc)) Wd Z) (by kernel_rfl) ?_
          rw [hWd]
          refine wpLast_take 0 (.pointer (some ⟨B, 0, none⟩)) rfl (by kernel_rfl) (by kernel_rfl) (by kernel_rfl) (by kernel_rfl) (fun _ _ _ h => h) (Or.inl ⟨by rfl, fun Z hZ => by go_simp⟩) (by assumption) ?_
          try simp only [Act.put, List.setIfInBounds_toArray, List.set_cons_zero, List.set_cons_succ]
          refine wpLast_take 1 (.pointer (some ⟨B, 0, none⟩)) rfl (by kernel_rfl) (by kernel_rfl) (by kernel_rfl) (by kernel_rfl) (fun _ _ _ h => h) (Or.inl ⟨by rfl, fun Z hZ => by go_simp⟩) (by assumption) ?_
          try simp only [Act.put, List.setIfInBounds_toArray, List.set_cons_zero, List.set_cons_succ]
          refine wpLast_take 2 (.pointer (some ⟨B, 0, none⟩)) rfl (by kernel_rfl) (by kernel_rfl) (by kernel_rfl) (by kernel_rfl) (fun _ _ _ h => h) (Or.inl ⟨by rfl, fun Z hZ => by go_simp⟩) (by assumption) ?_
          try simp only [Act.put, List.setIfInBounds_toArray, List.set_cons_zero, List.set_cons_succ]
          refine wpLast_take 3 (.pointer (some ⟨B, 0, none⟩)) rfl (by kernel_rfl) (by kernel_rfl) (by kernel_rfl) (by kernel_rfl) (fun _ _ _ h => h) (Or.inl ⟨by rfl, fun Z hZ => by go_simp⟩) (by assumption) ?_
          try simp only [Act.put, List.setIfInBounds_toArray, List.set_cons_zero, List.set_cons_succ]
          refine wpLast_take 4 (.slice la N lc) rfl (by kernel_rfl) (by kernel_rfl) (by kernel_rfl) (by kernel_rfl) (fun _ _ _ h => h) (Or.inl ⟨by rfl, fun Z hZ => by obtain ⟨y0, _⟩ := HX.out Z hZ; have y1 := cell_at y0 (o := 0) rfl; go_simp⟩) (by assumption) ?_
          try simp only [Act.put, List.setIfInBounds_toArray, List.set_cons_zero, List.set_cons_succ]
          refine wpLast_take 5 (nval t.v t.fn (.slice va k vc) N) rfl (by kernel_rfl) (by kernel_rfl) (by kernel_rfl) (by kernel_rfl) (fun _ _ _ h => h) (Or.inl ⟨by rfl, fun Z hZ => by obtain ⟨_, y0⟩ := HX.out Z hZ; have y1 := cell_at y0 (o := 0) rfl; have y2 := cell_at y0 (o := 1) rfl; have y3 := cell_at y0 (o := 2) rfl; have y4 := cell_at y0 (o := 3) rfl; go_simp⟩) (by assumption) ?_
          try simp only [Act.put, List.setIfInBounds_toArray, List.set_cons_zero, List.set_cons_succ]
          refine wpLast_one (i := 6) (o := ⟨_, _, _, _, _, _⟩) (by kernel_rfl) rfl (fun KK hK => ?_)
          rw [if_pos (by rfl)]
          go_simp
          obtain ⟨W6, hW6⟩ : ∃ X, Wd.alloc (.cells #[.int .i64 t.v, .string t.fn, .slice va k vc, .int .i64 (N : Nat)] 65) = X := ⟨_, rfl⟩
          have b6 : Below Wd.heap.size Wd W6 := by rw [← hW6]; exact below_box _ _
          have n6 : W6.heap[Wd.heap.size]? = some (.cells #[.int .i64 t.v, .string t.fn, .slice va k vc, .int .i64 (N : Nat)] 65 (0, 0)) := by rw [← hW6]; exact (MapKept.heap_alloc _ _).1
          have S6 : Only (ob (.slice la N lc)) Wd W6 := Only.of_below b6
          have R6 := row_keep RD (W' := W6) (fun g hg => by
            obtain ⟨_, cq, hq⟩ := row_block RD hg
            exact b6.block g (Array.getElem?_eq_some_iff.1 hq).1)
          rw [hW6]
          refine hK.out _ _ (fun _ => S6) ?_
          clear hK KK
          try simp only [Act.put, List.setIfInBounds_toArray, List.set_cons_zero, List.set_cons_succ]
          refine wpLast_one (i := 7) (o := ⟨_, _, _, _, _, _⟩) (by kernel_rfl) rfl (fun KK hK => ?_)
          have hne := HNE.out
          have hnb := HNb.out
          have h6s := b6.size
          refine step_append_own W6 rfl (.tmp 77) (.tmp 79) 54 rfl base 65 i0 _ 4 56 Try.underlying54 hi0 hz0 hz1 hz2 rfl (by decide) (.slice la N lc) N (flN (L ++ L2) 0) rfl R6 ⟨Wd.heap.size, 0, none⟩ 1 1 (ncs t.v t.fn (.slice va k vc) N) rfl rfl (fun j u hj => by rw [Addr.add_mid, Nat.zero_add]; exact cell_at n6 (by simpa [ncs] using hj)) (ones4 _ _ _ _ _ _) (by unfold maxLen; omega) (by omega) (by omega) ?_
          intro v7 W7 hrow7 hg7 hb7
          have S7 : Only (ob (.slice la N lc)) Wd W7 := S6.trans (Only.of_grown (B := ob (.slice la N lc)) hg7 (fun r hr => mem_ob.2 hr)) (fun r hr => .inl hr)
          refine hK.out _ _ (fun _ => S7) ?_
          clear hK KK
          try simp only [Act.put, List.setIfInBounds_toArray, List.set_cons_zero, List.set_cons_succ]
          refine wpLast_take 8 (.pointer (some ⟨B, 0, none⟩)) rfl (by kernel_rfl) (by kernel_rfl) (by kernel_rfl) (by kernel_rfl) (fun _ _ _ h => h) (Or.inl ⟨by rfl, fun Z hZ => by go_simp⟩) (by assumption) ?_
          try simp only [Act.put, List.setIfInBounds_toArray, List.set_cons_zero, List.set_cons_succ]
          refine wpLast_take 9 (.pointer (some ⟨B, 0, none⟩)) rfl (by kernel_rfl) (by kernel_rfl) (by kernel_rfl) (by kernel_rfl) (fun _ _ _ h => h) (Or.inl ⟨by rfl, fun Z hZ => by go_simp⟩) (by assumption) ?_
          try simp only [Act.put, List.setIfInBounds_toArray, List.set_cons_zero, List.set_cons_succ]
          obtain ⟨a7, c7, rfl⟩ := row_slice hrow7
          have HF : Hid (LayP W0 W B base v L t (.returned (.int .i64 (N : Nat))) (W7.setCell ⟨B, 0, none⟩ (.slice a7 (N + 1) c7))) := HL.out W7 _ _ hrow7 (by rw [hW6]; exact hg7) (by rw [hW6]; exact hb7)
          obtain ⟨z0, z1⟩ := HX.out W7 S7
          have y0 : W7.cell? ⟨B, 0, none⟩ = some (.slice la N lc) := cell_at z0 rfl
          have y1 : W7.frozen? ⟨B, 0, none⟩ = false := by simp [World.frozen?, z0]
          have y2 : (W7.setCell ⟨B, 0, none⟩ (.slice a7 (N + 1) c7)).cell? ⟨W.heap.size + 1, 3, none⟩ = some (.int .i64 (N : Nat)) := by
            refine cell_at (b := W.heap.size + 1) (o := 3) (l := #[.int .i64 t.v, .string t.fn, .slice va k vc, .int .i64 (N : Nat)]) ((Below.heap_setCell _ _ _ _ ?_).trans z1) rfl
            exact HNE.out.2
          clear hrow7 hg7 hb7 S7 S6 R6 RD b6 n6 hW6 z0 z1 hne h6s hHeld
          refine wpLast_one (i := 10) (o := ⟨_, _, _, _, _, _⟩) (by kernel_rfl) rfl (fun KK hK => ?_)
          rw [if_pos (by rfl)]
          go_simp
          obtain ⟨We, hWe⟩ : ∃ X, W7.setCell ⟨B, 0, none⟩ (.slice a7 (N + 1) c7) = X := ⟨_, rfl⟩
          rw [hWe] at y2 HF ⊢
          refine hK.out _ _ (fun h => absurd h (by omega)) ?_
          clear hK KK hWe
          refine wpLast_done (by kernel_rfl) ?_ _
          try simp only [Act.put]
          go_wp2
          refine bodyPost_ret (v := .int .i64 (N : Nat)) (by simp [results, Try.results32, go_sem]) rfl ?_
          exact HF.out

theorem lay_any (W0 : World) (t : T) : LayAt W0 t := by
  induction t using T.ind with
  | _ t ih =>
    by_cases h0 : t.fn.size = 0
    · exact lay_var W0 t h0
    · exact lay_fn W0 t ih h0

end Go.Proofs.Ytblfbmdnkgebdaa.Dn

/-
  A net that was laid is a net.
-/
namespace Go.Proofs.Ytblfbmdnkgebdaa.Dn
open Go.RowKit Go.Maps

theorem IntsP.withP {P : Nat → Prop} {W : World} {v : Value} {l : List Int} (h : IntsP (fun _ => True) W v l) (hp : ∀ b, v.ownBlock = some b → P b) : IntsP P W v l := by
  obtain ⟨a, c, rfl, h1, h2, h3⟩ := h
  refine ⟨a, c, rfl, h1, h2, fun h0 => ?_⟩
  obtain ⟨b, o, rfl, hlt, _, h4⟩ := h3 h0
  exact ⟨b, o, rfl, hlt, hp b rfl, h4⟩

def avOf (L : List (Nd × Value)) : Nat → Value := fun i => (L[i]?.map (·.2)).getD undef
theorem avOf_get {L : List (Nd × Value)} {i : Nat} (h : i < L.length) : avOf L i = L[i].2 := by simp [avOf, h]

theorem LayS.net {W0 W : World} {B base : Nat} {v : Value} {L : List (Nd × Value)} (h : LayS W0 W B base v L) (h0 : 0 < L.length) (hl : L.length ≤ 1048576) : ∃ g c, v = .slice (some ⟨g, 0, none⟩) L.length c ∧ Net W B g c (L.map (·.1)) id (avOf L) := by
  obtain ⟨hlen, ⟨e, hn⟩ | ⟨g, cap, cur, e, hb, hg, hc, hm, hsz, ht⟩⟩ := h.row
  · omega
  · refine ⟨g, cap, e, ?_, ⟨cur, hg, fun i hi => ?_⟩, fun i hi => ?_, ?_, fun i hi a ha => ?_, by simpa using hl⟩
    · rw [List.length_map, ← e]; exact h.box
    · have hi' : i < L.length := by simpa using hi
      obtain ⟨c0, c1, c2, c3⟩ := flN_get L 0 i L[i] (List.getElem?_eq_getElem hi')
      have look : ∀ (j : Nat) (u : Value), j < L.length * 4 → (flN L 0)[j]? = some u → cur[j]? = some u := fun j u hj hu => by
        rw [← ht, List.getElem?_take_of_lt hj] at hu
        simpa using hu
      rw [avOf_get hi', List.getElem_map]
      refine ⟨look _ _ (by omega) c0, look _ _ (by omega) c1, look _ _ (by omega) c2, ?_⟩
      have := look _ _ (by omega) c3
      simpa using this
    · have hi' : i < L.length := by simpa using hi
      rw [avOf_get hi', List.getElem_map]
      refine (h.ia _ (List.getElem_mem hi')).withP (fun b hbx => ?_)
      obtain ⟨_, k2, k3⟩ := h.ib _ (List.getElem_mem hi') b hbx
      exact ⟨fun e2 => k3 (by rw [e, e2]; rfl), k2⟩
    · have := h.ord; omega
    · have hi' : i < L.length := by simpa using hi
      rw [List.getElem_map] at ha
      have := h.lt i L[i] (List.getElem?_eq_getElem hi') a ha
      simp
      omega

theorem up_start (n : Nat) : Up n id id (fun _ => 0) 0 := ⟨fun _ h => h, fun _ _ => rfl, fun _ _ => Iff.rfl, fun _ _ h => absurd rfl h, fun _ => Nat.le_refl _⟩
theorem tp_start (N : List Nd) : Tp N id := ⟨fun _ h => h, fun _ => rfl, fun _ h => h, fun i d d' h1 h2 _ => by have h2 : N[i]? = some d' := h2; rw [h1] at h2; cases h2; exact Int.le_refl _⟩
theorem jn_start (N : List Nd) (P : List (Nat × Nat)) : Jn N id P := by
  intro i j di dj hi hj _ _ e
  have e : i = j := e
  subst e
  rw [hi] at hj
  cases hj
  refine ⟨rfl, rfl, fun k a b ha hb => ?_⟩
  rw [ha] at hb
  cases hb
  exact .same rfl

end Go.Proofs.Ytblfbmdnkgebdaa.Dn
