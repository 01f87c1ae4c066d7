/-
  LpoSoon: towers.
-/
import Derived.Test.YtpahgmidofacaaaVH
namespace Go.Proofs.Ytpahgmidofacaaa
open Go.RowKit Go.Maps

def tw : Nat → T
  | 0 => tx0
  | n + 1 => .mk 0 ⟨#[102]⟩ [tw n, tx1]
def g0 : Sg := ⟨[], []⟩
theorem g0_ok : g0.Ok := by
  unfold Sg.Ok
  refine ⟨by decide, by decide, fun x hx => ?_, fun x hx => ?_, List.nodup_nil⟩
  · cases hx
  · cases hx
theorem g0_at (w : World) : SgAt w g0 (.slice none 0 0) (.slice none 0 0) := ⟨⟨none, 0, rfl, Nat.le_refl _, by decide, fun h => absurd h (by decide)⟩, ⟨none, 0, rfl, Nat.le_refl _, by decide, fun h => absurd h (by decide)⟩, by intro x hx; cases hx⟩
theorem tw_all : (List.range 59).all (fun n => (tw n).rightW == 0 && decide ((tw n).size ≤ 200)) = true := by kernel_rfl
theorem tw_right {n : Nat} (h : n ≤ 58) : (tw n).rightW = 0 ∧ (tw n).size ≤ 200 := by
  have := List.all_eq_true.1 tw_all n (List.mem_range.2 (by omega))
  simpa using this
theorem tw_fn (n : Nat) : (tw (n + 1)).fn.size ≠ 0 := by
  show (⟨#[102]⟩ : ByteArray).size ≠ 0
  decide
theorem tw_lg (g : Sg) : ∀ (n m : Nat), m < n → lg g (tw n) (tw m)
  | 0, _, h => absurd h (by omega)
  | n + 1, m, h => by
    by_cases e : m = n
    · subst e
      exact .arg (tw_fn _) (by simp [tw, T.args])
    · exact .deep (tw n) (tw_fn _) (by simp [tw, T.args]) (tw_lg g n m (by omega))
theorem tw_cmp {n m : Nat} (hn : n ≤ 58) (hm : m ≤ 58) : lcmp g0 (tw n) (tw m) = if m < n then 1 else if n < m then -1 else 0 := by
  unfold lcmp
  rw [if_pos ⟨g0_ok, (tw_right hn).1, (tw_right hm).1⟩]
  by_cases h1 : m < n
  · rw [if_pos h1]; exact pcmp_gr.2 (tw_lg g0 n m h1)
  · rw [if_neg h1]
    by_cases h2 : n < m
    · rw [if_pos h2]; exact pcmp_ls.2 (tw_lg g0 m n h2)
    · rw [if_neg h2]
      have : n = m := by omega
      subst this
      exact pcmp_zero.2 rfl

theorem Try.info28 : (Try.prog.info? 28).map (·.size) = some 3 := by kernel_rfl
/-- A term is stored into its box. -/
theorem store_term (Y : World) (bx : Nat) (z : Array Value) (hz : z.size = 3) (c0 c1 c2 : Value) (h : Y.heap[bx]? = some (.cells z 28 (0, 0))) (h1 : ∀ u ∈ [c0, c1, c2], u.oneCell' = true) :
    ∃ Y', (Instr.storeAt 28 (.pointer (some ⟨bx, 0, none⟩)) (.agg #[c0, c1, c2])).run Try.prog Y = .ok () Y' ∧ Y'.heap[bx]? = some (.cells #[c0, c1, c2] 28 (0, 0)) ∧ Only [bx] Y Y' := by
  obtain ⟨cur', g1, g2, g3, g4, g5⟩ := heap_setCells bx 28 [c0, c1, c2] 0 Y z h
  refine ⟨_, run_storeAt_mid (P := Try.prog) Y bx 0 28 #[c0, c1, c2] (fun j hj => ?_) Try.info28 (all_oneCell_toArray h1), ?_, ?_⟩
  · have hj3 : j < 3 := hj
    simp [World.cell?, World.frozen?, h]
    omega
  · have e0 := g4 0 (by simp) (by omega)
    have e1 := g4 1 (by simp) (by omega)
    have e2 := g4 2 (by simp) (by omega)
    refine g1.trans ?_
    congr 2
    apply Array.ext
    · rw [g2, hz]; rfl
    · intro i h1 h2
      have : i = 0 ∨ i = 1 ∨ i = 2 := by simp at h2; omega
      rcases this with rfl | rfl | rfl
      · simpa [h1] using e0
      · simpa [h1] using e1
      · simpa [h1] using e2
  · exact g5

/-- Two terms in a row of their own. -/
theorem argsP_two {P : Nat → Prop} {W : World} {b : Nat} {x y : T} {sx sy : Value} (hb : W.heap[b]? = some (.cells #[.int .i64 x.v, .string x.fn, sx, .int .i64 y.v, .string y.fn, sy] 28 (0, 0))) (hP : P b) (hx : ArgsP P W sx x.args) (hy : ArgsP P W sy y.args) : ArgsP P W (.slice (some ⟨b, 0, none⟩) 2 2) [x, y] := by
  refine ArgsP.mk (some ⟨b, 0, none⟩) 2 [x, y] (fun i => if i = 0 then sx else sy) (by simp) (by omega) (fun _ => ⟨b, 0, hP, (Array.getElem?_eq_some_iff.1 hb).1, rfl, fun i hi => ?_⟩) (fun i hi => ?_)
  · have : i = 0 ∨ i = 1 := by simp at hi; omega
    rcases this with rfl | rfl <;> simp [World.cell?, hb]
  · have : i = 0 ∨ i = 1 := by simp at hi; omega
    rcases this with rfl | rfl
    · exact hx
    · exact hy

/-- Both boxes. -/
structure Jb (w : World) (i j : Nat) (sa sb : Value) (X : World) : Prop where
  ba : X.heap[w.heap.size]? = some (.cells #[.int .i64 (tw i).v, .string (tw i).fn, sa] 28 (0, 0))
  bb : X.heap[w.heap.size + 1]? = some (.cells #[.int .i64 (tw j).v, .string (tw j).fn, sb] 28 (0, 0))
  aa : ArgsP (Off w.heap.size (w.heap.size + 1)) X sa (tw i).args
  ab : ArgsP (Off w.heap.size (w.heap.size + 1)) X sb (tw j).args
  bel : Below w.heap.size w X
theorem Jb.below {w X X' : World} {i j : Nat} {sa sb : Value} (h : Jb w i j sa sb X) (hb : Below X.heap.size X X') : Jb w i j sa sb X' :=
  ⟨(hb.block _ (Array.getElem?_eq_some_iff.1 h.ba).1).trans h.ba, (hb.block _ (Array.getElem?_eq_some_iff.1 h.bb).1).trans h.bb, h.aa.keep hb.size (fun k hk hl => ⟨hk, hb.block k hl⟩), h.ab.keep hb.size (fun k hk hl => ⟨hk, hb.block k hl⟩), h.bel.trans (hb.mono h.bel.size)⟩
theorem Jb.cells {w X : World} {i j : Nat} {sa sb : Value} (h : Jb w i j sa sb X) : (X.cell? ⟨w.heap.size, 0, none⟩ = some (.int .i64 (tw i).v) ∧ X.cell? ⟨w.heap.size, 1, none⟩ = some (.string (tw i).fn) ∧ X.cell? ⟨w.heap.size, 2, none⟩ = some sa) ∧ X.cell? ⟨w.heap.size + 1, 0, none⟩ = some (.int .i64 (tw j).v) ∧ X.cell? ⟨w.heap.size + 1, 1, none⟩ = some (.string (tw j).fn) ∧ X.cell? ⟨w.heap.size + 1, 2, none⟩ = some sb := by
  have h1 := h.ba
  have h2 := h.bb
  refine ⟨⟨?_, ?_, ?_⟩, ?_, ?_, ?_⟩ <;> simp [World.cell?, h1, h2]
/-- The first tower rises. -/
theorem Jb.upA {w X : World} {i j : Nat} {sa sb : Value} (h : Jb w i j sa sb X) (_ : sa.oneCell' = true) : ∃ Y, (Instr.storeAt 28 (.pointer (some ⟨w.heap.size, 0, none⟩)) (.agg #[.int .i64 0, .string ⟨#[102]⟩, .slice (some ⟨X.heap.size, 0, none⟩) 2 2])).run Try.prog (X.alloc (.cells #[.int .i64 (tw i).v, .string (tw i).fn, sa, .int .i64 1, .string ⟨#[]⟩, .slice none 0 0] 28)) = .ok () Y ∧ Jb w (i + 1) j (.slice (some ⟨X.heap.size, 0, none⟩) 2 2) sb Y := by
  have hb := below_box X (.cells #[.int .i64 (tw i).v, .string (tw i).fn, sa, .int .i64 1, .string ⟨#[]⟩, .slice none 0 0] 28)
  have hn := (MapKept.heap_alloc X (.cells #[.int .i64 (tw i).v, .string (tw i).fn, sa, .int .i64 1, .string ⟨#[]⟩, .slice none 0 0] 28)).1
  have hJ := h.below hb
  have la := (Array.getElem?_eq_some_iff.1 h.ba).1
  have lb := (Array.getElem?_eq_some_iff.1 h.bb).1
  generalize X.alloc (.cells #[.int .i64 (tw i).v, .string (tw i).fn, sa, .int .i64 1, .string ⟨#[]⟩, .slice none 0 0] 28) = X1 at *
  obtain ⟨Y, hrun, hy, ho⟩ := store_term X1 w.heap.size _ rfl (.int .i64 0) (.string ⟨#[102]⟩) (.slice (some ⟨X.heap.size, 0, none⟩) 2 2) hJ.ba (by intro u hu; simp only [List.mem_cons, List.not_mem_nil, or_false] at hu; rcases hu with rfl | rfl | rfl <;> rfl)
  refine ⟨Y, hrun, hy, (ho.block _ (Array.getElem?_eq_some_iff.1 hJ.bb).1 (by simp)).trans hJ.bb, ?_, ?_, ?_⟩
  · refine argsP_two (x := tw i) (y := tx1) (sx := sa) (sy := .slice none 0 0) ((ho.block _ (Array.getElem?_eq_some_iff.1 hn).1 (by simp; omega)).trans hn) ⟨by omega, by omega⟩ ?_ (ArgsP.nil _ _)
    exact hJ.aa.keep ho.size (fun k hk hl => ⟨hk, ho.block k hl (by simpa using hk.1)⟩)
  · exact hJ.ab.keep ho.size (fun k hk hl => ⟨hk, ho.block k hl (by simpa using hk.1)⟩)
  · exact hJ.bel.trans (ho.below hJ.bel.size (by simp))
/-- The second tower rises. -/
theorem Jb.upB {w X : World} {i j : Nat} {sa sb : Value} (h : Jb w i j sa sb X) (_ : sb.oneCell' = true) : ∃ Y, (Instr.storeAt 28 (.pointer (some ⟨w.heap.size + 1, 0, none⟩)) (.agg #[.int .i64 0, .string ⟨#[102]⟩, .slice (some ⟨X.heap.size, 0, none⟩) 2 2])).run Try.prog (X.alloc (.cells #[.int .i64 (tw j).v, .string (tw j).fn, sb, .int .i64 1, .string ⟨#[]⟩, .slice none 0 0] 28)) = .ok () Y ∧ Jb w i (j + 1) sa (.slice (some ⟨X.heap.size, 0, none⟩) 2 2) Y := by
  have hb := below_box X (.cells #[.int .i64 (tw j).v, .string (tw j).fn, sb, .int .i64 1, .string ⟨#[]⟩, .slice none 0 0] 28)
  have hn := (MapKept.heap_alloc X (.cells #[.int .i64 (tw j).v, .string (tw j).fn, sb, .int .i64 1, .string ⟨#[]⟩, .slice none 0 0] 28)).1
  have hJ := h.below hb
  have la := (Array.getElem?_eq_some_iff.1 h.ba).1
  have lb := (Array.getElem?_eq_some_iff.1 h.bb).1
  generalize X.alloc (.cells #[.int .i64 (tw j).v, .string (tw j).fn, sb, .int .i64 1, .string ⟨#[]⟩, .slice none 0 0] 28) = X1 at *
  obtain ⟨Y, hrun, hy, ho⟩ := store_term X1 (w.heap.size + 1) _ rfl (.int .i64 0) (.string ⟨#[102]⟩) (.slice (some ⟨X.heap.size, 0, none⟩) 2 2) hJ.bb (by intro u hu; simp only [List.mem_cons, List.not_mem_nil, or_false] at hu; rcases hu with rfl | rfl | rfl <;> rfl)
  refine ⟨Y, hrun, (ho.block _ (Array.getElem?_eq_some_iff.1 hJ.ba).1 (by simp)).trans hJ.ba, hy, ?_, ?_, ?_⟩
  · exact hJ.aa.keep ho.size (fun k hk hl => ⟨hk, ho.block k hl (by simpa using hk.2)⟩)
  · refine argsP_two (x := tw j) (y := tx1) (sx := sb) (sy := .slice none 0 0) ((ho.block _ (Array.getElem?_eq_some_iff.1 hn).1 (by simp; omega)).trans hn) ⟨by omega, by omega⟩ ?_ (ArgsP.nil _ _)
    exact hJ.ab.keep ho.size (fun k hk hl => ⟨hk, ho.block k hl (by simpa using hk.2)⟩)
  · exact hJ.bel.trans (ho.below hJ.bel.size (by simp))

end Go.Proofs.Ytpahgmidofacaaa
