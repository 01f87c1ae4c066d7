/-
  The walks of the closures, of change, Take, Give, Back.
-/
import Derived.Test.YtiaebahmbgmajaaB
import Derived.Laws.CopyRow
import Derived.Laws.MakeOwn
import Derived.BigQuiet
import Derived.Deep.RegionWith
namespace Go.Proofs.Ytiaebahmbgmajaa
open Go.RowKit

/-- From w to w' no old block has turned but Ba. -/
structure Tch (Ba : Nat) (w w' : World) : Prop where
  os : w'.os = w.os
  tape : w'.tape = w.tape
  output : w'.output = w.output
  size : w.heap.size ≤ w'.heap.size
  block : ∀ k, k < w.heap.size → k ≠ Ba → w'.heap[k]? = w.heap[k]?

theorem Tch.refl (Ba : Nat) (w : World) : Tch Ba w w := ⟨rfl, rfl, rfl, Nat.le_refl _, fun _ _ _ => rfl⟩
theorem Tch.trans {Ba : Nat} {x y z : World} (h : Tch Ba x y) (k : Tch Ba y z) : Tch Ba x z :=
  ⟨k.os.trans h.os, k.tape.trans h.tape, k.output.trans h.output, Nat.le_trans h.size k.size, fun i hi hn => (k.block i (Nat.lt_of_lt_of_le hi h.size) hn).trans (h.block i hi hn)⟩
theorem Tch.of_below {Ba : Nat} {w w' : World} (h : Below w.heap.size w w') : Tch Ba w w' := ⟨h.os, h.tape, h.output, h.size, fun k hk _ => h.block k hk⟩
theorem Tch.below {Ba B : Nat} {w w' : World} (h : Tch Ba w w') (hB : B ≤ Ba) (hs : Ba < w.heap.size) : Below B w w' := ⟨h.os, h.tape, h.output, h.size, fun k hk => h.block k (by omega) (by omega)⟩

theorem CAt.set1 {W : World} {g : Nat} {cs : List Cnt} (h : CAt W g cs) {k : Nat} (hk : k < cs.length) (u : Int) : CAt (W.setCell ⟨g, k * 3 + 1, none⟩ (.int .i64 u)) g (cs.set k (cs[k].1, u, cs[k].2.2)) := by
  have := (cflat_set cs k hk 0 u 0).2.1
  unfold CAt
  rw [setCell_eq_setRow W g (k * 3 + 1) _ 49 (0, 0) _ h, setRow_heap W g _ _ 49 (0, 0) h, ← this]
  simp
theorem CAt.set2 {W : World} {g : Nat} {cs : List Cnt} (h : CAt W g cs) {k : Nat} (hk : k < cs.length) (p : Int) : CAt (W.setCell ⟨g, k * 3 + 2, none⟩ (.int .i64 p)) g (cs.set k (cs[k].1, cs[k].2.1, p)) := by
  have := (cflat_set cs k hk 0 0 p).2.2
  unfold CAt
  rw [setCell_eq_setRow W g (k * 3 + 2) _ 49 (0, 0) _ h, setRow_heap W g _ _ 49 (0, 0) h, ← this]
  simp
theorem CAt.set0 {W : World} {g : Nat} {cs : List Cnt} (h : CAt W g cs) {k : Nat} (hk : k < cs.length) (l : Int) : CAt (W.setCell ⟨g, k * 3, none⟩ (.int .i64 l)) g (cs.set k (l, cs[k].2.1, cs[k].2.2)) := by
  have := (cflat_set cs k hk l 0 0).1
  unfold CAt
  rw [setCell_eq_setRow W g (k * 3) _ 49 (0, 0) _ h, setRow_heap W g _ _ 49 (0, 0) h, ← this]
  simp

/-- The closure of Take, where the limit does not allow it: it only reads. -/
theorem take1_full (g k m Bk Bn : Nat) (n L U : Int) (w : World) (hk : k < m) (y1 : w.cell? ⟨g, k * 3, none⟩ = some (.int .i64 L)) (y2 : w.cell? ⟨g, k * 3 + 1, none⟩ = some (.int .i64 U))
    (ck : w.cell? ⟨Bk, 0, none⟩ = some (.int .i64 k)) (cn : w.cell? ⟨Bn, 0, none⟩ = some (.int .i64 n)) (b1 : 0 ≤ U) (b2 : U ≤ L) (b3 : L ≤ 9223372036854775807) (hn : L - U < n) :
    Calls Try.prog 32 #[.slice (some ⟨g, 0, none⟩) m m, .pointer (some ⟨Bk, 0, none⟩), .pointer (some ⟨Bn, 0, none⟩)] w fun e w' => e = .returned (.int .i64 5) ∧ ∃ q, w' = w.drewN q := by
  go_enter Try.func32, Try.ntmps32
  go_wp2
  go_quiet (fail)
  go_wp2
  go_ret
  exact ⟨rfl, _, rfl⟩

set_option maxHeartbeats 1000000 in
theorem take1_ok (g k m Bk Bn : Nat) (n L U P : Int) (w : World) (hk : k < m) (y1 : w.cell? ⟨g, k * 3, none⟩ = some (.int .i64 L)) (y2 : w.cell? ⟨g, k * 3 + 1, none⟩ = some (.int .i64 U)) (y3 : w.cell? ⟨g, k * 3 + 2, none⟩ = some (.int .i64 P))
    (f1 : w.frozen? ⟨g, k * 3 + 1, none⟩ = false) (f2 : w.frozen? ⟨g, k * 3 + 2, none⟩ = false) 
    (ck : w.cell? ⟨Bk, 0, none⟩ = some (.int .i64 k)) (cn : w.cell? ⟨Bn, 0, none⟩ = some (.int .i64 n)) (_hgk : g ≠ Bk) (_hgn : g ≠ Bn) (b0 : 0 ≤ n) (b1 : 0 ≤ U) (b2 : U ≤ L) (b3 : L ≤ 9223372036854775807) (hn : n ≤ L - U) :
    Calls Try.prog 32 #[.slice (some ⟨g, 0, none⟩) m m, .pointer (some ⟨Bk, 0, none⟩), .pointer (some ⟨Bn, 0, none⟩)] w fun e w' => e = .returned (.int .i64 0) ∧ ∃ q, w' = ((w.setCell ⟨g, k * 3 + 1, none⟩ (.int .i64 (U + n))).setCell ⟨g, k * 3 + 2, none⟩ (.int .i64 (if P < U + n then U + n else P))).drewN q := by
  go_enter Try.func32, Try.ntmps32
  go_wp2
  go_quiet (fail)
  go_wp2
  go_region
  all_goals go_wp2
  all_goals go_region
  all_goals go_wp2
  all_goals go_ret
  all_goals exact ⟨rfl, nq + 2, rfl⟩

set_option maxHeartbeats 1000000 in
theorem give1_any (g k m Bk Bn : Nat) (n U : Int) (w : World) (hk : k < m) (_hm : m ≤ 16) (y2 : w.cell? ⟨g, k * 3 + 1, none⟩ = some (.int .i64 U)) (f1 : w.frozen? ⟨g, k * 3 + 1, none⟩ = false)
    (ck : w.cell? ⟨Bk, 0, none⟩ = some (.int .i64 k)) (cn : w.cell? ⟨Bn, 0, none⟩ = some (.int .i64 n)) (hU : Fit U) (hn : Fit n) :
    Calls Try.prog 33 #[.slice (some ⟨g, 0, none⟩) m m, .pointer (some ⟨Bk, 0, none⟩), .pointer (some ⟨Bn, 0, none⟩)] w fun e w' => e = .returned (.int .i64 0) ∧ ∃ q, w' = (w.setCell ⟨g, k * 3 + 1, none⟩ (.int .i64 (subS U n))).drewN q := by
  go_enter Try.func33, Try.ntmps33
  go_wp2
  go_region_with (go_at_call 10; refine (sub_any _ _ _ hU hn).mono ?_; rintro e w' ⟨rfl, rfl⟩)
  all_goals go_wp2
  all_goals go_ret
  all_goals exact ⟨rfl, 1, rfl⟩

end Go.Proofs.Ytiaebahmbgmajaa
