/-
  The document's Put, at every term.
-/
import Derived.Test.YthinbkpjggihdaaSW
namespace Go.Proofs.Ythinbkpjggihdaa
open Go.RowKit Go.Maps

theorem row_keep {n0 : Nat} {W W' : World} {ty : TypeId} {k : Nat} {fv : Value} {n : Nat} {vs : List Value} (h : W.ownsRow n0 ty k fv n vs) (hB : ∀ g, fv.ownBlock = some g → W'.heap[g]? = W.heap[g]?) : W'.ownsRow n0 ty k fv n vs := by
  obtain ⟨h1, h2⟩ := h
  refine ⟨h1, ?_⟩
  rcases h2 with h2 | ⟨g, cap, cur, e, hb, hg, r⟩
  · exact .inl h2
  · exact .inr ⟨g, cap, cur, e, hb, (hB g (by rw [e]; rfl)).trans hg, r⟩

/-- What a round of Put leaves. -/
structure PutI (W0 w : World) (t : T) (sl : Value) (σ : Int → T) (k : Nat) (v : Value) (ps : List (T × Value)) (W : World) : Prop where
  args : ps.map (·.1) = (t.args.take k).map (T.app σ)
  ok : ∀ p ∈ ps, ArgsP (fun b => (b < W0.heap.size ∨ w.heap.size + 3 ≤ b) ∧ v.ownBlock ≠ some b) W p.2 p.1.args
  row : W.ownsRow (w.heap.size + 3) 25 3 v k (flatT ps)
  out : W.heap[w.heap.size + 1 + 1]? = some (.cells #[.int .i64 0, .string t.fn, v] 25 (0, 0))
  tb : W.heap[w.heap.size]? = some (.cells #[.int .i64 t.v, .string t.fn, sl] 25 (0, 0))
  rb : W.heap[w.heap.size + 1]? = some (.cells #[.int .i64 0, .string ⟨#[]⟩, .slice none 0 0] 25 (0, 0))
  bel : Below w.heap.size w W
  siz : w.heap.size + 3 ≤ W.heap.size

theorem put_end {W0 w : World} {t : T} {sl : Value} {σ : Int → T} {k : Nat} {v : Value} {ps : List (T × Value)} {wr : World} (h : PutI W0 w t sl σ k v ps wr) (hW0 : W0.heap.size ≤ w.heap.size) (hlt : k < t.args.length) (u : T) (hu : t.args[k].app σ = u) (s5 : Value) (W5 X w6 : World) (hX : Below wr.heap.size wr W5) (hX5 : Below W5.heap.size W5 X) (hA : ArgsP (fun b => b < W0.heap.size ∨ wr.heap.size ≤ b) W5 s5 u.args) (v' : Value)
    (hown : w6.ownsRow (w.heap.size + 3) 25 3 v' (k + 1) (flatT ps ++ [.int .i64 u.v, .string u.fn, s5])) (hg : X.grownBy w6 v.ownBlock) (hat : v'.ownBlock = v.ownBlock ∨ v'.ownBlock = some X.heap.size) :
    PutI W0 w t sl σ (k + 1) v' (ps ++ [(u, s5)]) (w6.setCell ⟨w.heap.size + 1 + 1, 2, none⟩ v') := by
  have hsz := h.siz
  have hXs := hX.size
  have hX5s := hX5.size
  have hgs := hg.size
  have hvl : ∀ g, v.ownBlock = some g → w.heap.size + 3 ≤ g ∧ g < wr.heap.size := fun g e => h.row.lt g e
  have hv'l : ∀ g, v'.ownBlock = some g → w.heap.size + 3 ≤ g := fun g e => (hown.lt g e).1
  -- what lies in an older block, other than the row's and the box', is kept
  have kp : ∀ k, k < wr.heap.size → v.ownBlock ≠ some k → k ≠ w.heap.size + 1 + 1 → (w6.setCell ⟨w.heap.size + 1 + 1, 2, none⟩ v').heap[k]? = wr.heap[k]? := fun k hk hv hb => by
    rw [Below.heap_setCell _ _ _ k hb, hg.block k (by omega) (fun e => hv e.symm), hX5.block k (by omega), hX.block k hk]
  have kp5 : ∀ k, k < W5.heap.size → v.ownBlock ≠ some k → k ≠ w.heap.size + 1 + 1 → (w6.setCell ⟨w.heap.size + 1 + 1, 2, none⟩ v').heap[k]? = W5.heap[k]? := fun k hk hv hb => by
    rw [Below.heap_setCell _ _ _ k hb, hg.block k (by omega) (fun e => hv e.symm), hX5.block k hk]
  have hn : ∀ j, j < w.heap.size + 3 → v.ownBlock ≠ some j := fun j hj e => by have := hvl j e; omega
  have hv'b : ∀ b, b < X.heap.size → v.ownBlock ≠ some b → v'.ownBlock ≠ some b := fun b hb hne => by
    rcases hat with e | e
    · rw [e]; exact hne
    · rw [e]; intro e2; have := Option.some.inj e2; omega
  have hout : w6.heap[w.heap.size + 1 + 1]? = some (.cells #[.int .i64 0, .string t.fn, v] 25 (0, 0)) := by
    rw [hg.block _ (by omega) (fun e => hn _ (by omega) e.symm), hX5.block _ (by omega), hX.block _ (by omega)]
    exact h.out
  refine ⟨?_, fun p hp => ?_, ?_, ?_, ?_, ?_, ?_, ?_⟩
  · rw [List.map_append, h.args, List.take_succ_eq_append_getElem hlt, List.map_append]
    simp [hu]
  · rcases List.mem_append.1 hp with hp | hp
    · refine (h.ok p hp).keep (by simp; omega) (fun b ⟨hb, hne⟩ hlt => ⟨⟨hb, hv'b b (by omega) hne⟩, kp b hlt hne ?_⟩)
      rcases hb with hb | hb <;> omega
    · simp at hp
      subst hp
      refine hA.keep (by simp; omega) (fun b hb hlt => ?_)
      have hne : v.ownBlock ≠ some b := fun e => by have := hvl b e; rcases hb with hb | hb <;> omega
      refine ⟨⟨?_, hv'b b (by omega) hne⟩, kp5 b hlt hne ?_⟩
      · rcases hb with hb | hb
        · exact .inl hb
        · exact .inr (by omega)
      · rcases hb with hb | hb <;> omega
  · rw [flatT_snoc]
    exact row_keep hown (fun g hg => Below.heap_setCell _ _ _ g (by have := hv'l g hg; intro e; have : g = w.heap.size + 1 + 1 := e; omega))
  · have := heap_setCell_same w6 (w.heap.size + 1 + 1) 2 _ 25 v' hout
    simpa using this
  · rw [kp _ (by omega) (hn _ (by omega)) (by omega)]; exact h.tb
  · rw [kp _ (by omega) (hn _ (by omega)) (by omega)]; exact h.rb
  · exact h.bel.trans ⟨by rw [show (w6.setCell ⟨w.heap.size + 1 + 1, 2, none⟩ v').os = w6.os from rfl, hg.os, hX5.os, hX.os], by rw [show (w6.setCell ⟨w.heap.size + 1 + 1, 2, none⟩ v').tape = w6.tape from rfl, hg.tape, hX5.tape, hX.tape], by rw [show (w6.setCell ⟨w.heap.size + 1 + 1, 2, none⟩ v').output = w6.output from rfl, hg.output, hX5.output, hX.output], by simp; omega, fun j hj => kp j (by omega) (hn j (by omega)) (by omega)⟩
  · simp; omega

end Go.Proofs.Ythinbkpjggihdaa
