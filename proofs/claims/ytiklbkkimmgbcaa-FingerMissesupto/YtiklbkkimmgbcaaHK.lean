/-
  The term of a class: what lies in memory.
-/
import Derived.Test.YtiklbkkimmgbcaaHS
import Derived.Test.YtiklbkkimmgbcaaHE
import Derived.Test.YtiklbkkimmgbcaaHW
namespace Go.Proofs.Ytiklbkkimmgbcaa
open Go.RowKit

def TermP (w : World) (e : Ending) (W' : World) : Prop := ∃ (t : T) (a : Option Addr) (c : Nat), e = .returned (tval t (.slice a t.args.length c)) ∧ ArgsP (fun b => w.heap.size ≤ b) W' (.slice a t.args.length c) t.args ∧ Below w.heap.size w W'

structure TermI (w : World) (x y : Nat) (nd : List Value) (v : Int) (fn : ByteArray) (k : Nat) (vv : Value) (ps : List (T × Value)) (wr : World) : Prop where
  bel : Below w.heap.size w wr
  ord : w.heap.size < x ∧ x < y ∧ w.heap.size < wr.heap.size
  rb : wr.heap[w.heap.size]? = some (.cells #[.int .i64 0, .string ⟨#[]⟩, .slice none 0 0] 24 (0, 0))
  nb : wr.heap[x]? = some (.cells nd.toArray 101 (0, 0))
  tb : wr.heap[y]? = some (.cells #[.int .i64 v, .string fn, vv] 24 (0, 0))
  row : wr.ownsRow (y + 1) 24 3 vv k (flatT ps)
  len : ps.length = k
  sub : ∀ p ∈ ps, ArgsP (fun b => y < b ∧ vv.ownBlock ≠ some b) wr p.2 p.1.args

section
variable {w : World} {x y : Nat} {nd : List Value} {v : Int} {fn : ByteArray} {k : Nat} {vv : Value} {ps : List (T × Value)} {wr : World}

theorem TermI.next (h : TermI w x y nd v fn k vv ps wr) {Wd W5 W7 : World} (hd : Below wr.heap.size wr Wd) {u : T} {su v7 : Value} (hu : ArgsP (fun b => Wd.heap.size ≤ b) W5 su u.args) (h5 : Below Wd.heap.size Wd W5) {bl : Obj}
    (hrow : W7.ownsRow (y + 1) 24 3 v7 (k + 1) (flatT ps ++ [.int .i64 u.v, .string u.fn, su])) (hg7 : (W5.alloc bl).grownBy W7 vv.ownBlock) (hb7 : v7.ownBlock = vv.ownBlock ∨ v7.ownBlock = some (W5.alloc bl).heap.size) : TermI w x y nd v fn (k + 1) v7 (ps ++ [(u, su)]) (W7.setCell ⟨y, 2, none⟩ v7) := by
  obtain ⟨o1, o2, o3⟩ := h.ord
  have hy : y < wr.heap.size := (Array.getElem?_eq_some_iff.1 h.tb).1
  have hvv : ∀ g, vv.ownBlock = some g → y + 1 ≤ g ∧ g < wr.heap.size := fun g hg => by
    obtain ⟨h1, cq, hq⟩ := row_block h.row hg
    exact ⟨h1, (Array.getElem?_eq_some_iff.1 hq).1⟩
  obtain ⟨W6, hW6⟩ : ∃ X, W5.alloc bl = X := ⟨_, rfl⟩
  have b6 : Below W5.heap.size W5 W6 := by rw [← hW6]; exact below_box _ _
  rw [hW6] at hg7 hb7
  have h6s := b6.size
  have h5s := h5.size
  have hds := hd.size
  have o7 : Only (ob vv) W6 W7 := Only.of_grown hg7 (fun r hr => mem_ob.2 hr)
  have h7s := o7.size
  have o8 := only_setCell W7 y 2 v7
  have oE : Only (y :: ob vv) W5 (W7.setCell ⟨y, 2, none⟩ v7) :=
    ((Only.of_below (B := y :: ob vv) b6).trans o7 (fun r hr => .inl (List.mem_cons_of_mem _ hr))).trans o8 (fun r hr => .inl (by simp at hr; simp [hr]))
  have oW : Only (y :: ob vv) wr (W7.setCell ⟨y, 2, none⟩ v7) := ((Only.of_below (B := y :: ob vv) hd).trans (Only.of_below (B := []) h5) (by simp)).trans oE (fun r hr => .inl hr)
  have kp : ∀ b, b < wr.heap.size → b < y → (W7.setCell ⟨y, 2, none⟩ v7).heap[b]? = wr.heap[b]? := fun b hb hby => oW.block b hb (fun hm => by
    rcases List.mem_cons.1 hm with e | hm
    · omega
    · have := (hvv _ (mem_ob.1 hm)).1; omega)
  have v7ge : ∀ g, v7.ownBlock = some g → y + 1 ≤ g := fun g hg => (row_block hrow hg).1
  have v7ne : ∀ b, b < W5.heap.size → vv.ownBlock ≠ some b → v7.ownBlock ≠ some b := fun b hb h1 e => by
    rcases hb7 with e7 | e7
    · exact h1 (e7 ▸ e)
    · rw [e7] at e
      injection e with e
      omega
  have tb7 : W7.heap[y]? = some (.cells #[.int .i64 v, .string fn, vv] 24 (0, 0)) := by
    rw [o7.block _ (by omega) (fun e => by have := (hvv _ (mem_ob.1 e)).1; omega), b6.block _ (by omega), h5.block _ (by omega), hd.block _ hy]
    exact h.tb
  refine ⟨h.bel.trans (oW.below h.bel.size (fun r hr => ?_)), ⟨o1, o2, by have := oW.size; omega⟩, ?_, ?_, ?_, ?_, by simp [h.len], fun p hp => ?_⟩
  · rcases List.mem_cons.1 hr with e | hm
    · omega
    · have := (hvv _ (mem_ob.1 hm)).1; omega
  · rw [kp _ o3 (by omega)]; exact h.rb
  · rw [kp _ (Array.getElem?_eq_some_iff.1 h.nb).1 (by omega)]; exact h.nb
  · rw [heap_setCell_same W7 y 2 _ 24 v7 tb7]; rfl
  · rw [flatT_snoc]
    exact row_keep hrow (fun g hg => Below.heap_setCell _ _ _ g (by have := v7ge g hg; show g ≠ y; omega))
  · rcases List.mem_append.1 hp with hp | hp
    · refine (h.sub p hp).keep oW.size (fun b ⟨hb1, hb2⟩ hlt => ⟨⟨hb1, v7ne b (by omega) hb2⟩, oW.block b hlt (fun hm => ?_)⟩)
      rcases List.mem_cons.1 hm with e | hm
      · omega
      · exact hb2 (mem_ob.1 hm)
    · obtain rfl := List.mem_singleton.1 hp
      refine hu.keep oE.size (fun b hb1 hlt => ⟨⟨by omega, v7ne b hlt (fun e => by have := (hvv b e).2; omega)⟩, oE.block b hlt (fun hm => ?_)⟩)
      rcases List.mem_cons.1 hm with e | hm
      · omega
      · have := (hvv _ (mem_ob.1 hm)).2; omega

theorem TermI.last (h : TermI w x y nd v fn k vv ps wr) : ArgsP (fun b => w.heap.size ≤ b) (set3 wr w.heap.size 0 (.int .i64 v) (.string fn) vv) vv (ps.map (·.1)) ∧ Below w.heap.size w (set3 wr w.heap.size 0 (.int .i64 v) (.string fn) vv) := by
  obtain ⟨o1, o2, o3⟩ := h.ord
  refine ⟨argsP_of_row (base := y + 1) (n := k) (ps := ps) (row_keep h.row (fun g hg => set3_other _ _ _ _ _ _ g (by have := (row_block h.row hg).1; omega))) (by simp [h.len]) rfl (fun b hb => by omega) (fun p hp => ?_), set3_below h.bel _ 0 _ _ _ (Nat.le_refl _)⟩
  exact (h.sub p hp).keep (by rw [set3_size]; exact Nat.le_refl _) (fun b ⟨hb1, _⟩ _ => ⟨by omega, set3_other _ _ _ _ _ _ b (by omega)⟩)
end

end Go.Proofs.Ytiklbkkimmgbcaa
