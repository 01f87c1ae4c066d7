import Derived.Test.YtglphfhlpobgcaaGreatWK
import Derived.Test.YtglphfhlpobgcaaGreatKB
namespace Go.Proofs.YtglphfhlpobgcaaGreat
open Go.RowKit Go.Maps
set_option maxHeartbeats 1000000 in
theorem symbolOf_any (t : T) (sl : Value) (w : World) (hs : ∃ a c, sl = .slice a t.args.length c) :
    Calls Tryz.prog 82 #[tval t sl] w fun e w' => e = .returned (symv (t.fn, t.args.length)) ∧ Below w.heap.size w w' := by
  obtain ⟨a, c, rfl⟩ := hs
  go_enter Tryz.func82, Tryz.ntmps82
  go_wp2
  refine bodyPost_ret (v := symv (t.fn, t.args.length)) (by simp [results, Tryz.results82, go_sem, *]) rfl ⟨rfl, ?_⟩
  exact below_box2 w _ _
def symB (g : Sg) (s r : ByteArray × Nat) : Bool := g.above s.1 r.1 || (decide (s.1 = r.1) && decide (r.2 < s.2))
theorem symB_iff {g : Sg} {s r : ByteArray × Nat} : symB g s r = true ↔ g.sym s.1 r.1 s.2 r.2 := by
  unfold symB Sg.sym
  simp
theorem box3_cells (w : World) (a b c d e f : Value) (t u v : TypeId) :
    ((((w.alloc (.cells #[a, b] t)).alloc (.cells #[c, d] u)).alloc (.cells #[e, f] v)).cell? ⟨w.heap.size, 0, none⟩ = some a ∧ (((w.alloc (.cells #[a, b] t)).alloc (.cells #[c, d] u)).alloc (.cells #[e, f] v)).cell? ⟨w.heap.size, 1, none⟩ = some b) ∧
    ((((w.alloc (.cells #[a, b] t)).alloc (.cells #[c, d] u)).alloc (.cells #[e, f] v)).cell? ⟨w.heap.size + 1, 0, none⟩ = some c ∧ (((w.alloc (.cells #[a, b] t)).alloc (.cells #[c, d] u)).alloc (.cells #[e, f] v)).cell? ⟨w.heap.size + 1, 1, none⟩ = some d) ∧
    ((((w.alloc (.cells #[a, b] t)).alloc (.cells #[c, d] u)).alloc (.cells #[e, f] v)).cell? ⟨w.heap.size + 1 + 1, 0, none⟩ = some e ∧ (((w.alloc (.cells #[a, b] t)).alloc (.cells #[c, d] u)).alloc (.cells #[e, f] v)).cell? ⟨w.heap.size + 1 + 1, 1, none⟩ = some f) := by
  have h1 := box2_cells w a b t
  have h2 := box2_cells (w.alloc (.cells #[a, b] t)) c d u
  have h3 := box2_cells ((w.alloc (.cells #[a, b] t)).alloc (.cells #[c, d] u)) e f v
  have b2 := below_box (w.alloc (.cells #[a, b] t)) (.cells #[c, d] u)
  have b3 := below_box ((w.alloc (.cells #[a, b] t)).alloc (.cells #[c, d] u)) (.cells #[e, f] v)
  simp only [World.size_alloc] at h2 h3
  exact ⟨⟨kc b3 (by simp only [World.size_alloc]; omega) (kc b2 (by simp) h1.1), kc b3 (by simp only [World.size_alloc]; omega) (kc b2 (by simp) h1.2)⟩, ⟨kc b3 (by simp) h2.1, kc b3 (by simp) h2.2⟩, h3⟩
def scmp (g : Sg) (s r : ByteArray × Nat) : Int := if symB g s r = true then 1 else if symB g r s = true then -1 else 0
end Go.Proofs.YtglphfhlpobgcaaGreat
