import Derived.Test.YtglphfhlpobgcaaGreatLB
namespace Go.Proofs.YtglphfhlpobgcaaGreat
open Go.RowKit
def csize (c : List Lt) : Int := (c.map fun x => x.l.size + x.r.size).sum
def cupto (c : List Lt) (k : Nat) : Int := csize (c.take k)
theorem cupto_succ (c : List Lt) (k : Nat) (h : k < c.length) : cupto c (k + 1) = cupto c k + (c[k].l.size + c[k].r.size) := by
  unfold cupto csize
  rw [List.take_succ_eq_append_getElem h]
  simp only [List.map_append, List.sum_append, List.map_cons, List.map_nil, List.sum_cons, List.sum_nil, Int.add_zero]
theorem cupto_all (c : List Lt) (k : Nat) (h : c.length ≤ k) : cupto c k = csize c := by
  unfold cupto
  rw [List.take_of_length_le h]
theorem cstep (c : List Lt) (k : Nat) (h : k < c.length) : wrap64 (wrap64 (wrap64 (cupto c k) + wrap64 c[k].l.size) + wrap64 c[k].r.size) = wrap64 (cupto c (k + 1)) := by
  rw [cupto_succ c k h]
  simp only [wrap64]
  omega
set_option maxRecDepth 100000 in
set_option maxHeartbeats 2000000 in
theorem rcsize_any (l : List Lt) (v : Value) (w : World) (hc : ClauseAt w v l) :
    Calls Tryz.prog 23 #[v] w fun e w' => e = .returned (.int .i64 (wrap64 (csize l))) ∧ Below w.heap.size w w' := by
  obtain ⟨a, c, rfl⟩ := hc.slice
  have hlen := hc.len
  have HC : Hid (ClauseAt w (.slice a l.length c) l) := hc
  clear hc
  go_enter Tryz.func23, Tryz.ntmps23
  go_wp2
  go_loopw [3, 4] (fun vn vi wr => ∃ i : Nat, vi = .int .i64 i ∧ vn = .int .i64 (wrap64 (cupto l i)) ∧ i ≤ l.length ∧ Below w.heap.size w wr) (fun _ vi _ => l.length - (intOf vi).toNat)
  case atStart => exact ⟨0, rfl, by simp [cupto, csize, wrap64], Nat.zero_le _, Below.refl _ _⟩
  case round =>
    obtain ⟨i, rfl, rfl, hi, hb⟩ := hrel
    by_cases hlt : i < l.length
    · obtain ⟨bb, o, sl, sr, rfl, hX⟩ := (HC.out.keep hb).nth hlt
      have HS : Hid (wrap64 (wrap64 (wrap64 (cupto l i) + wrap64 l[i].l.size) + wrap64 l[i].r.size) = wrap64 (cupto l (i + 1))) := cstep l i hlt
      obtain ⟨x, hx⟩ : ∃ x, l[i] = x := ⟨_, rfl⟩
      rw [hx] at hX HS
      clear hx
      have hc40 : ∀ (t : T) (s : Value), ArgsAt wr s t.args → ∀ W, Below wr.heap.size wr W → Calls Tryz.prog 48 #[tval t s] W fun e w' => e = .returned (.int .i64 (wrap64 t.size)) ∧ Below W.heap.size W w' := fun t s h W hW => rsize_any t _ W (ArgsAt.keep hW (Nat.le_refl _) h)
      have hal := hX.al
      have har := hX.ar
      have f1 := fun p => cell_far hX.lt hX.c1 p
      have f2 := fun p => cell_far hX.lt hX.c2 p
      have f3 := fun p => cell_far hX.lt hX.c3 p
      have f4 := fun p => cell_far hX.lt hX.c4 p
      have f5 := fun p => cell_far hX.lt hX.c5 p
      have f6 := fun p => cell_far hX.lt hX.c6 p
      have i0 : (i : Int) < (l.length : Int) := by omega
      have i1 : (0 : Int) ≤ (i : Int) := by omega
      have HB : Hid (Below w.heap.size w wr) := hb
      obtain ⟨_, _, rfl, _⟩ := hX.al.slice
      obtain ⟨_, _, rfl, _⟩ := hX.ar.slice
      clear hX hb
      go_wp2
      refine wp_region_far (by kernel_rfl) ?_
      repeat (first | go_big_quiet_step (exact calls_far (hc40 _ _ (by first | exact hal | exact har)) _) | quiet_step (exact calls_far (hc40 _ _ (by first | exact hal | exact har)) _))
      refine wpQuiet_nil ?_
      intro _ hw'
      obtain ⟨pf, rfl⟩ := hw'
      go_wp2
      go_roundw
      case rel => exact ⟨i + 1, by go_num, by rw [← HS.out], by omega, HB.out.trans ((below_far _ pf).mono HB.out.size)⟩
      case measure => simp [intOf]; omega
    · have HE : Hid (cupto l i = csize l) := cupto_all l i (by omega)
      go_wp2
      go_ret
      exact ⟨ret_i64 (by rw [HE.out]), hb⟩
def lfe : List T → Int
  | [] => 0
  | t :: r => if t.rightW = 0 then lfe r else t.rightW
def sidesOf (c : List Lt) : List T := c.flatMap fun x => [x.l, x.r]
def crightW (c : List Lt) : Int := if 60 < c.length then 3 else if lfe (sidesOf c) ≠ 0 then lfe (sidesOf c) else if 4000 < wrap64 (csize c) then 3 else 0
theorem lfe_zero : ∀ {l : List T}, lfe l = 0 ↔ ∀ t ∈ l, t.rightW = 0
  | [] => by simp [lfe]
  | t :: r => by
    unfold lfe
    by_cases h : t.rightW = 0
    · rw [if_pos h, lfe_zero]
      simp [h]
    · rw [if_neg h]
      simp [h]
end Go.Proofs.YtglphfhlpobgcaaGreat
