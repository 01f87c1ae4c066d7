/-
  light.
-/
import Derived.Test.YthinbkpjggihdaaSA
import Derived.Test.YthinbkpjggihdaaSE
namespace Go.Proofs.Ythinbkpjggihdaa
open Go.RowKit

set_option maxRecDepth 100000 in
set_option maxHeartbeats 4000000 in
theorem light_any (l : List Bd) (t : T) (v sl : Value) (w : World) (hl : BindsAt w v l) (ha : ArgsAt w sl t.args) :
    Calls Try.prog 9 #[v, tval t sl] w fun e w' => ∃ b, e = .returned (.bool b) ∧ Below w.heap.size w w' := by
  have hlen := hl.len
  obtain ⟨a, c, rfl⟩ := hl.slice
  obtain ⟨ta, tc, rfl, _, _⟩ := ha.slice
  have HL : Hid (BindsAt w (.slice a l.length c) l) := hl
  have hb1 := below_box w (tbox t (.slice ta t.args.length tc))
  have HT : Hid (∀ W, Below (w.heap.size + 1) (w.alloc (tbox t (.slice ta t.args.length tc))) W → Calls Try.prog 27 #[tval t (.slice ta t.args.length tc)] W fun e w' => e = .returned (.int .i64 (wrap64 t.size)) ∧ Below W.heap.size W w') := fun W hW => rsize_any t _ W (ArgsAt.keep (hb1.trans (hW.mono (Nat.le_succ _))) (Nat.le_refl _) ha)
  have HB1 : Hid (Below w.heap.size w (w.alloc (tbox t (.slice ta t.args.length tc)))) := hb1
  obtain ⟨t0, t1, t2⟩ := tbox_cells w t (.slice ta t.args.length tc)
  have HC : Hid (∀ W, Below (w.heap.size + 1) (w.alloc (tbox t (.slice ta t.args.length tc))) W → W.cell? ⟨w.heap.size, 0, none⟩ = some (.int .i64 t.v) ∧ W.cell? ⟨w.heap.size, 1, none⟩ = some (.string t.fn) ∧ W.cell? ⟨w.heap.size, 2, none⟩ = some (.slice ta t.args.length tc)) := fun W hW => by
    have hW' : Below (w.alloc (tbox t (.slice ta t.args.length tc))).heap.size (w.alloc (tbox t (.slice ta t.args.length tc))) W := by rw [World.size_alloc]; exact hW
    exact ⟨kc hW' (by simp) t0, kc hW' (by simp) t1, kc hW' (by simp) t2⟩
  obtain ⟨z, hz⟩ : ∃ z, wrap64 t.size = z := ⟨_, rfl⟩
  rw [hz] at HT
  clear hl ha hb1 t0 t1 t2 hz
  go_enter Try.func9, Try.ntmps9
  go_wp2
  go_loopw [5, 6] (fun vm vi wr => ∃ (i : Nat) (m : Int), vi = .int .i64 i ∧ vm = .int .i64 m ∧ i ≤ l.length ∧ Below (w.heap.size + 1) (w.alloc (tbox t (.slice ta t.args.length tc))) wr) (fun _ vi _ => l.length - (intOf vi).toNat)
  case atStart => exact ⟨0, 1, rfl, rfl, Nat.zero_le _, Below.refl _ _⟩
  case round =>
    obtain ⟨i, m, rfl, rfl, hi, hwr⟩ := hrel
    have hb0 : Below w.heap.size w wr := HB1.out.trans (hwr.mono (Nat.le_succ _))
    have HB0 : Hid (Below w.heap.size w wr) := hb0
    have HWr : Hid (Below (w.heap.size + 1) (w.alloc (tbox t (.slice ta t.args.length tc))) wr) := hwr
    by_cases hlt : i < l.length
    · obtain ⟨b, o, s, e', hB0⟩ := HL.out.nth hlt
      cases e'
      have hB := hB0.keep hb0
      obtain ⟨x, hx⟩ : ∃ x, l[i] = x := ⟨_, rfl⟩
      rw [hx] at hB
      obtain ⟨sa, sc, rfl, _, _⟩ := hB.sub.slice
      obtain ⟨g1, g2, g3⟩ : wr.cell? ⟨b, o + i * 4 + 1, none⟩ = some (.int .i64 x.2.v) ∧ wr.cell? ⟨b, o + i * 4 + 2, none⟩ = some (.string x.2.fn) ∧ wr.cell? ⟨b, o + i * 4 + 3, none⟩ = some (.slice sa x.2.args.length sc) := ⟨hB.c1, hB.c2, hB.c3⟩
      have hc := rsize_any x.2 _ wr hB.sub
      obtain ⟨y, hy⟩ : ∃ y, wrap64 x.2.size = y := ⟨_, rfl⟩
      rw [hy] at hc
      clear hB hB0 hx hb0 hwr hy
      by_cases hd : 3000 < y
      · go_wp2_with (go_at_call 27; refine hc.mono ?_; rintro e w2 ⟨rfl, hb2⟩)
        go_ret
        exact ⟨_, rfl, HB0.out.trans (hb2.mono HB0.out.size)⟩
      · go_wp2_with (go_at_call 27; refine hc.mono ?_; rintro e w2 ⟨rfl, hb2⟩)
        go_roundw
        case rel => exact ⟨i + 1, _, by go_num, rfl, by omega, HWr.out.trans (hb2.mono (by have := HWr.out.size; simpa using this))⟩
        case measure => simp [intOf]; omega
    · obtain ⟨p0, p1, p2⟩ := HC.out wr hwr
      have hc := HT.out wr hwr
      clear hwr hb0
      by_cases hd : z ≤ 5000
      · go_wp2_with (first
          | (go_at_call 27; refine (HT.out w2 (HWr.out.trans (hb2.mono (by have := HWr.out.size; simpa using this)))).mono ?_; rintro e w3 ⟨rfl, hb3⟩)
          | (go_at_call 27; refine hc.mono ?_; rintro e w2 ⟨rfl, hb2⟩; obtain ⟨q0, q1, q2⟩ := HC.out w2 (HWr.out.trans (hb2.mono (by have := HWr.out.size; simpa using this)))))
        go_ret
        exact ⟨_, rfl, HB0.out.trans ((hb2.mono HB0.out.size).trans (hb3.mono (Nat.le_trans HB0.out.size hb2.size)))⟩
      · go_wp2_with (first
          | (go_at_call 27; refine hc.mono ?_; rintro e w2 ⟨rfl, hb2⟩))
        go_ret
        exact ⟨.inl rfl, HB0.out.trans (hb2.mono HB0.out.size)⟩

end Go.Proofs.Ythinbkpjggihdaa
