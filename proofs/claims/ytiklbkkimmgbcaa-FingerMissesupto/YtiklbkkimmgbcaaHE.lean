/-
  A net that grows: what lies in memory while terms are laid.
-/
import Derived.Test.YtiklbkkimmgbcaaHD
import Derived.Test.YtiklbkkimmgbcaaFQ
namespace Go.Proofs.Ytiklbkkimmgbcaa
open Go.RowKit

/-- The cells of nodes, each its own top. -/
def flN : List (Nd × Value) → Nat → List Value
  | [], _ => []
  | x :: r, i => ncs x.1.v x.1.fn x.2 i ++ flN r (i + 1)
theorem flN_len : ∀ (L : List (Nd × Value)) (i : Nat), (flN L i).length = L.length * 4
  | [], _ => rfl
  | x :: r, i => by simp only [flN, List.length_append, flN_len r, ncs, List.length_cons, List.length_nil]; omega
theorem flN_app : ∀ (L M : List (Nd × Value)) (i : Nat), flN (L ++ M) i = flN L i ++ flN M (i + L.length)
  | [], M, i => by simp [flN]
  | x :: r, M, i => by
    simp only [List.cons_append, flN, flN_app r M (i + 1), List.append_assoc, List.length_cons]
    rw [show i + 1 + r.length = i + (r.length + 1) by omega]
theorem flN_snoc (L : List (Nd × Value)) (d : Nd) (s : Value) : flN (L ++ [(d, s)]) 0 = flN L 0 ++ ncs d.v d.fn s L.length := by
  rw [flN_app]
  simp [flN]
theorem flN_get : ∀ (L : List (Nd × Value)) (k i : Nat) (x : Nd × Value), L[i]? = some x → (flN L k)[i * 4]? = some (.int .i64 x.1.v) ∧ (flN L k)[i * 4 + 1]? = some (.string x.1.fn) ∧ (flN L k)[i * 4 + 2]? = some x.2 ∧ (flN L k)[i * 4 + 3]? = some (.int .i64 ((k + i : Nat) : Nat))
  | y :: r, k, 0, x, h => by
    obtain rfl : y = x := by simpa using h
    exact ⟨rfl, rfl, rfl, rfl⟩
  | y :: r, k, i + 1, x, h => by
    have ih := flN_get r (k + 1) i x (by simpa using h)
    have e : ∀ j, (flN (y :: r) k)[(i + 1) * 4 + j]? = (flN r (k + 1))[i * 4 + j]? := fun j => by
      show (ncs y.1.v y.1.fn y.2 k ++ flN r (k + 1))[(i + 1) * 4 + j]? = _
      rw [List.getElem?_append_right (by simp [ncs]; omega)]
      congr 1
      simp [ncs]
      omega
    have e0 := e 0
    simp only [Nat.add_zero] at e0
    rw [e0, e 1, e 2, e 3, show k + (i + 1) = k + 1 + i by omega]
    exact ih

def ob (v : Value) : List Nat := v.ownBlock.toList
theorem mem_ob {v : Value} {g : Nat} : g ∈ ob v ↔ v.ownBlock = some g := by
  unfold ob
  cases v.ownBlock <;> simp [eq_comm]

structure LayS (W0 W : World) (B base : Nat) (v : Value) (L : List (Nd × Value)) : Prop where
  bel : Below W0.heap.size W0 W
  ord : W0.heap.size ≤ B ∧ B < base ∧ base ≤ W.heap.size
  box : W.heap[B]? = some (.cells #[v] 93 (0, 0))
  row : W.ownsRow base 101 4 v L.length (flN L 0)
  ia : ∀ x ∈ L, IntsP (fun _ => True) W x.2 (ints x.1.args)
  ib : ∀ x ∈ L, ∀ b, x.2.ownBlock = some b → b < W.heap.size ∧ b ≠ B ∧ v.ownBlock ≠ some b
  lt : ∀ (i : Nat) (x : Nd × Value), L[i]? = some x → ∀ a ∈ x.1.args, a < i
  al : ∀ x ∈ L, x.1.args.length ≤ 16

structure LayF (W W' : World) (B : Nat) (v v' : Value) : Prop where
  only : Only (B :: ob v) W W'
  blk : v'.ownBlock = v.ownBlock ∨ ∃ g, v'.ownBlock = some g ∧ W.heap.size ≤ g

theorem LayF.of_below {W W' : World} {B : Nat} {v : Value} (h : Below W.heap.size W W') : LayF W W' B v v := ⟨.of_below h, .inl rfl⟩

theorem IntsP.kept {W W' : World} {v : Value} {l : List Int} (h : IntsP (fun _ => True) W v l) (hs : W.heap.size ≤ W'.heap.size) (hk : ∀ b, v.ownBlock = some b → b < W.heap.size → W'.heap[b]? = W.heap[b]?) : IntsP (fun _ => True) W' v l := by
  obtain ⟨a, c, rfl, h1, h2, h3⟩ := h
  refine ⟨a, c, rfl, h1, h2, fun h0 => ?_⟩
  obtain ⟨b, o, rfl, hlt, _, h4⟩ := h3 h0
  refine ⟨b, o, rfl, by omega, trivial, fun i hi => ?_⟩
  rw [← h4 i hi]
  simp [World.cell?, hk b rfl hlt]

theorem LayS.vlt {W0 W : World} {B base : Nat} {v : Value} {L : List (Nd × Value)} (h : LayS W0 W B base v L) {g : Nat} (hg : v.ownBlock = some g) : base ≤ g ∧ g < W.heap.size := by
  obtain ⟨h1, cq, hq⟩ := row_block h.row hg
  exact ⟨h1, (Array.getElem?_eq_some_iff.1 hq).1⟩

/-- Kept where the blocks of the net are. -/
theorem LayS.kept {W0 W W' : World} {B base : Nat} {v : Value} {L : List (Nd × Value)} (h : LayS W0 W B base v L) {l : List Nat} (hb : Only l W W') (h1 : B ∉ l) (h2 : ∀ g, v.ownBlock = some g → g ∉ l) (h3 : ∀ g ∈ l, W0.heap.size ≤ g) (h4 : ∀ x ∈ L, ∀ b, x.2.ownBlock = some b → b ∉ l) : LayS W0 W' B base v L := by
  obtain ⟨o1, o2, o3⟩ := h.ord
  have hs := hb.size
  refine ⟨h.bel.trans (hb.below h.bel.size h3), ⟨o1, o2, by omega⟩, (hb.block B (by omega) h1).trans h.box, row_keep h.row (fun g hg => ?_), fun x hx => ?_, fun x hx b hbx => ?_, h.lt, h.al⟩
  · exact hb.block g (h.vlt hg).2 (h2 g hg)
  · exact (h.ia x hx).kept hs (fun b hbx hlt => hb.block b hlt (h4 x hx b hbx))
  · obtain ⟨k1, k2, k3⟩ := h.ib x hx b hbx
    exact ⟨by omega, k2, k3⟩

theorem LayS.keep {W0 W W' : World} {B base : Nat} {v : Value} {L : List (Nd × Value)} (h : LayS W0 W B base v L) (hb : Below W.heap.size W W') : LayS W0 W' B base v L :=
  h.kept (Only.of_below (B := []) hb) (by simp) (by simp) (by simp) (by simp)

/-- What is read of a node. -/
theorem LayS.cells {W0 W : World} {B base : Nat} {v : Value} {L : List (Nd × Value)} (h : LayS W0 W B base v L) {i : Nat} {x : Nd × Value} (hi : L[i]? = some x) : ∃ g c, v = .slice (some ⟨g, 0, none⟩) L.length c ∧ W.cell? ⟨g, i * 4, none⟩ = some (.int .i64 x.1.v) ∧ W.cell? ⟨g, i * 4 + 1, none⟩ = some (.string x.1.fn) := by
  have hl := (List.getElem?_eq_some_iff.1 hi).1
  obtain ⟨hlen, ⟨e, h0⟩ | ⟨g, cap, cur, e, hb, hg, hc, hm, hsz, ht⟩⟩ := h.row
  · omega
  · obtain ⟨c0, c1, _, _⟩ := flN_get L 0 i x hi
    rw [← ht] at c0 c1
    refine ⟨g, cap, e, ?_, ?_⟩
    · rw [List.getElem?_take] at c0
      split at c0
      · simp [World.cell?, hg, c0, ← Array.getElem?_toList]
      · cases c0
    · rw [List.getElem?_take] at c1
      split at c1
      · simp [World.cell?, hg, c1, ← Array.getElem?_toList]
      · cases c1

theorem Rep.app {N M : List Nd} {i : Nat} {t : T} (h : Rep N i t) : Rep (N ++ M) i t := by
  induction h with
  | mk i t d h hf hl ha ih =>
    refine .mk i t d ?_ hf hl ih
    rw [List.getElem?_append_left (List.getElem?_eq_some_iff.1 h).1]
    exact h

/-- What laying gives. -/
def LayP (W0 W : World) (B base : Nat) (v : Value) (L : List (Nd × Value)) (t : T) (e : Ending) (W' : World) : Prop :=
  ∃ (i : Nat) (v' : Value) (L2 : List (Nd × Value)), e = .returned (.int .i64 (i : Nat)) ∧ LayS W0 W' B base v' (L ++ L2) ∧ LayF W W' B v v' ∧ Rep ((L ++ L2).map (·.1)) i t ∧ i < (L ++ L2).length ∧ (L2.length : Int) ≤ t.size ∧ ∀ x ∈ L2, ∀ b, x.2.ownBlock = some b → W.heap.size ≤ b

/-- The loop over the arguments. -/
structure LayI (W0 W W3 : World) (B base : Nat) (v : Value) (L : List (Nd × Value)) (t : T) (s : Value) (k : Nat) (v' : Value) (L2 : List (Nd × Value)) (vv : Value) (ks : List Nat) (wr : World) : Prop where
  st : LayS W0 wr B base v' (L ++ L2)
  fr : Only ((W.heap.size + 1) :: B :: ob v) W3 wr
  blk : v'.ownBlock = v.ownBlock ∨ ∃ g, v'.ownBlock = some g ∧ W.heap.size + 2 ≤ g
  tb : wr.heap[W.heap.size]? = some (.cells #[.int .i64 t.v, .string t.fn, s] 24 (0, 0))
  nb : wr.heap[W.heap.size + 1]? = some (.cells #[.int .i64 t.v, .string t.fn, vv, .int .i64 0] 101 (0, 0))
  row : wr.ownsRow (W.heap.size + 2) 3 1 vv k (ks.map fun n => .int .i64 (n : Nat))
  ne : ∀ g, vv.ownBlock = some g → v'.ownBlock ≠ some g
  reps : ks.length = k ∧ ∀ (j : Nat) (h : j < ks.length), ks[j] < (L ++ L2).length ∧ ∀ x, t.args[j]? = some x → Rep ((L ++ L2).map (·.1)) ks[j] x
  len : (L2.length : Int) ≤ upto T.size t.args k
  nn : ∀ x ∈ L ++ L2, ∀ b, x.2.ownBlock = some b → b ≠ W.heap.size + 1 ∧ vv.ownBlock ≠ some b
  nw : ∀ x ∈ L2, ∀ b, x.2.ownBlock = some b → W.heap.size ≤ b

section
variable {W0 W W3 : World} {B base : Nat} {v : Value} {L : List (Nd × Value)} {t : T} {s : Value} {k : Nat} {v' : Value} {L2 : List (Nd × Value)} {vv : Value} {ks : List Nat} {wr : World}

theorem LayI.sizes (h : LayI W0 W W3 B base v L t s k v' L2 vv ks wr) : W.heap.size + 2 ≤ wr.heap.size := by
  have := (Array.getElem?_eq_some_iff.1 h.nb).1
  omega

/-- Neither box is the row's. -/
theorem LayI.vne (h : LayI W0 W W3 B base v L t s k v' L2 vv ks wr) (hv : ∀ g, v.ownBlock = some g → g < W.heap.size) : v'.ownBlock ≠ some W.heap.size ∧ v'.ownBlock ≠ some (W.heap.size + 1) := by
  rcases h.blk with e | ⟨g, e, hg⟩
  · refine ⟨fun e' => ?_, fun e' => ?_⟩ <;> (have := hv _ (e ▸ e'); omega)
  · refine ⟨fun e' => ?_, fun e' => ?_⟩ <;> (rw [e] at e'; injection e' with e'; omega)

theorem LayI.vvne (h : LayI W0 W W3 B base v L t s k v' L2 vv ks wr) : ∀ g, vv.ownBlock = some g → W.heap.size + 2 ≤ g := fun _g hg => (row_block h.row hg).1

/-- Kept by a call that lays an argument. -/
theorem LayI.after (h : LayI W0 W W3 B base v L t s k v' L2 vv ks wr) (hB : B < W.heap.size) (hv : ∀ g, v.ownBlock = some g → g < W.heap.size) {Z : World} {v5 : Value} (hf : LayF wr Z B v' v5) :
    Z.heap[W.heap.size]? = some (.cells #[.int .i64 t.v, .string t.fn, s] 24 (0, 0)) ∧ Z.heap[W.heap.size + 1]? = some (.cells #[.int .i64 t.v, .string t.fn, vv, .int .i64 0] 101 (0, 0)) ∧ Z.ownsRow (W.heap.size + 2) 3 1 vv k (ks.map fun n => .int .i64 (n : Nat)) := by
  have hz := h.sizes
  obtain ⟨n1, n2⟩ := h.vne hv
  refine ⟨?_, ?_, row_keep h.row (fun g hg => ?_)⟩
  · rw [hf.only.block _ (by omega) (by simp [mem_ob, n1]; omega)]; exact h.tb
  · rw [hf.only.block _ (by omega) (by simp [mem_ob, n2]; omega)]; exact h.nb
  · obtain ⟨hg2, cq, hq⟩ := row_block h.row hg
    exact hf.only.block g (Array.getElem?_eq_some_iff.1 hq).1 (by simp [mem_ob, h.ne g hg]; omega)
end

end Go.Proofs.Ytiklbkkimmgbcaa
