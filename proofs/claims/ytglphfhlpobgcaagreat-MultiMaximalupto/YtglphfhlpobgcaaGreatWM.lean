import Derived.Test.YtglphfhlpobgcaaGreatWL
import Derived.Laws.EntriesVeiled
namespace Go.Proofs.YtglphfhlpobgcaaGreat
open Go.RowKit Go.Maps
section
variable {g : Sg} {ρ : ByteArray × Nat → Nat} {ν : Int → Nat} {nw : Nat} {L : List T} {w0 : World} {bc bp bf bm : Nat} {vp : Value} {s : Int}
theorem pcmp_fit (g : Sg) (a b : T) : -2 ≤ pcmp g a b ∧ pcmp g a b ≤ 2 := by
  rcases pcmp_rng g a b with h | h | h | h <;> rw [h] <;> omega
set_option maxRecDepth 100000 in
set_option maxHeartbeats 4000000 in
theorem cmp_step (H : Lst g ρ ν nw L) (hP : Pts ρ ν nw L w0 vp) (hOk : CmpOk w0 g L bc bp bf bm vp s) : CmpOk w0 g L bc bp bf bm vp (s + 1) := by
  intro i j hi hj hs w hC
  rcases Nat.lt_trichotomy i j with h | h | h
  · exact cmp_lt H hP hOk hi hj h hs w hC
  · subst h
    have HV : Hid (pcmp g L[i] L[i] = 0) := (pcmp_zero (g := g)).2 rfl
    have HC : Hid (Cm w0 g L bc bp bf bm vp w) := hC
    clear hOk hP H hC
    go_enter Tryz.func84, Tryz.ntmps84
    go_wp2
    go_ret
    exact ⟨ret_i64 HV.out.symm, HC.out, Only.refl _ _⟩
  · have hcall := cmp_lt H hP hOk hj hi h (by omega) w hC
    have ht := turned_any _ (pcmp_fit g L[j] L[i])
    rw [trn_pcmp] at ht
    have g1 : (i == j) = false := by rw [beq_eq_false_iff_ne]; omega
    have g1' : ((i : Int) == (j : Int)) = false := by rw [beq_eq_false_iff_ne]; omega
    have g2 : decide (j < i) = true := decide_eq_true h
    have cc := hC.cc
    have eg := eg47
    clear hOk hP H hC h
    go_enter Tryz.func84, Tryz.ntmps84
    go_wp2_with (first
      | (go_at_call 85; refine (ht _).mono ?_; rintro e W3 ⟨rfl, hW3⟩; subst hW3)
      | (go_at_fn 84; refine hcall.mono ?_; rintro e W2 ⟨rfl, hC2, hO2⟩; have HD : Hid (Cm w0 g L bc bp bf bm vp W2 ∧ Only [bm] w W2) := ⟨hC2, hO2⟩; clear hC2 hO2))
    go_ret
    exact ⟨rfl, HD.out⟩
theorem cmp_all (H : Lst g ρ ν nw L) (hP : Pts ρ ν nw L w0 vp) : ∀ n : Nat, CmpOk w0 g L bc bp bf bm vp (n : Int)
  | 0 => fun i j hi hj hs => by
    have := size_pos L[i]
    have := size_pos L[j]
    omega
  | n + 1 => cmp_step H hP (cmp_all H hP n)
theorem cmp_any (H : Lst g ρ ν nw L) (hP : Pts ρ ν nw L w0 vp) {i j : Nat} (hi : i < L.length) (hj : j < L.length) (W : World) (hC : Cm w0 g L bc bp bf bm vp W) :
    Calls Tryz.prog 84 #[.int .i16 (i : Int), .int .i16 (j : Int), .pointer (some ⟨bc, 0, none⟩), .pointer (some ⟨bp, 0, none⟩), .pointer (some ⟨bf, 0, none⟩)] W fun e W' => e = .returned (.int .i64 (pcmp g L[i] L[j])) ∧ Cm w0 g L bc bp bf bm vp W' ∧ Only [bm] W W' :=
  cmp_all H hP (L[i].size + L[j].size).toNat i j hi hj (by omega) W hC
theorem run_makeMap0 (t k e : TypeId) (_ : Tryz.prog.underlying t = some (.map k e)) (w : World) : (Instr.makeMap t none).run Tryz.prog w = .ok (.map (some w.heap.size)) (w.alloc (.map #[] 0)) := by
  simp [Instr.makeMap, Result.andThen]
set_option maxRecDepth 100000 in
set_option maxHeartbeats 1000000 in
theorem comparer_any (g : Sg) (L : List T) (a : Option Addr) (n c : Nat) (w : World) :
    Calls Tryz.prog 51 #[.slice a n c] w fun e W' => ∃ bc bp bf bm, e = .returned (cmpF bc bp bf) ∧ Cm w g L bc bp bf bm (.slice a n c) W' := by
  have hmm := fun w => run_makeMap0 131 137 3 Tryz.underlying131 w
  go_enter Tryz.func51, Tryz.ntmps51
  go_wp2
  go_ret
  refine ⟨w.heap.size + 3, w.heap.size, w.heap.size + 2, w.heap.size + 1, rfl, ?_⟩
  obtain ⟨W1, e1⟩ : ∃ W, W = w.alloc (Obj.cells #[Value.slice a n c] 79) := ⟨_, rfl⟩
  obtain ⟨W2, e2⟩ : ∃ W, W = W1.alloc (Obj.map #[] 0) := ⟨_, rfl⟩
  obtain ⟨W3, e3⟩ : ∃ W, W = W2.alloc (Obj.cells #[Value.map (some (w.heap.size + 1))] 131) := ⟨_, rfl⟩
  obtain ⟨W4, e4⟩ : ∃ W, W = W3.alloc (Obj.cells #[cmpF (w.heap.size + 1 + 1 + 1) w.heap.size (w.heap.size + 1 + 1)] 86) := ⟨_, rfl⟩
  rw [← e1, ← e2, ← e3, ← e4]
  have s1 : W1.heap.size = w.heap.size + 1 := by rw [e1]; simp
  have s2 : W2.heap.size = w.heap.size + 2 := by rw [e2]; simp [s1]
  have s3 : W3.heap.size = w.heap.size + 3 := by rw [e3]; simp [s2]
  have s4 : W4.heap.size = w.heap.size + 4 := by rw [e4]; simp [s3]
  have b1 : Below w.heap.size w W1 := by rw [e1]; exact below_box w _
  have b2 : Below W1.heap.size W1 W2 := by rw [e2]; exact below_box W1 _
  have b3 : Below W2.heap.size W2 W3 := by rw [e3]; exact below_box W2 _
  have b4 : Below W3.heap.size W3 W4 := by rw [e4]; exact below_box W3 _
  have c1 : W1.cell? ⟨w.heap.size, 0, none⟩ = some (.slice a n c) := by rw [e1]; exact box1_cell w _ 79
  have c3 : W3.cell? ⟨w.heap.size + 2, 0, none⟩ = some (.map (some (w.heap.size + 1))) := by
    have := box1_cell W2 (.map (some (w.heap.size + 1))) 131
    rw [← e3, s2] at this
    exact this
  have c4 : W4.cell? ⟨w.heap.size + 3, 0, none⟩ = some (cmpF (w.heap.size + 3) w.heap.size (w.heap.size + 2)) := by
    have := box1_cell W3 (cmpF (w.heap.size + 3) w.heap.size (w.heap.size + 2)) 86
    rw [s3] at this
    rw [e4]
    exact this
  have m2 : MapIs W2 137 (w.heap.size + 1) (fun _ => none) 0 := by
    have := MapIs.made W1 137
    rw [← e2, s1] at this
    exact this
  have b24 := b3.trans (b4.mono (by omega))
  have b14 := b2.trans (b24.mono (by omega))
  refine ⟨b1.trans (b14.mono (by omega)), by omega, c4, kc b14 (by omega) c1, kc b4 (by omega) c3, ⟨by omega, by omega, by omega⟩, ⟨by omega, by omega, by omega⟩, fun _ => none, [], m2.same (b24.block _ (by omega)), List.nodup_nil, fun p hp => (by cases hp), fun i j _ _ => .inl ⟨rfl, by simp⟩⟩
end
end Go.Proofs.YtglphfhlpobgcaaGreat
