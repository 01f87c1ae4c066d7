/-
  The document's Remove.
-/
import Derived.Test.YtiklbkkimmgbcaaGJ
import Derived.StillTail
namespace Go.Proofs.Ytiklbkkimmgbcaa
open Go.RowKit Go.Maps

section
variable {P : Program} {ops : Array Oper} {Q : Exit → Act → World → Prop} {md : Region.Mode} {S : World → Prop}
/-- In any order; S is held behind every operation but number N, the last. -/
def wpLast (P : Program) (md : Region.Mode) (ops : Array Oper) (Q : Exit → Act → World → Prop) (S : World → Prop) (N : Nat) : Nat → Array Bool → Act → World → Prop
  | 0, ls, a, w => Region.ready md ops ls = [] ∧ Q .normal a w
  | n + 1, ls, a, w => (Region.ready md ops ls = [] → Q .normal a w) ∧ ∀ i ∈ Region.ready md ops ls, wpOp P ops Q i (fun b z => (i < N → S z) ∧ wpLast P md ops Q S N n (ls.setIfInBounds i true) b z) a w
theorem wpLast_any {N : Nat} : ∀ {n : Nat} {ls : Array Bool} {a : Act} {w : World}, wpLast P md ops Q S N n ls a w → wpAny P md ops Q n ls a w
  | 0, _, _, _, h => h
  | _ + 1, _, _, _, h => ⟨h.1, fun i hi => wpOp_mono (fun _ _ k => wpLast_any k.2) (h.2 i hi)⟩
/-- What has come up is closed, and the last has not. -/
def headB (md : Region.Mode) (ops : Array Oper) (N : Nat) (ls : Array Bool) : Bool :=
  decide (ls.size = ops.size) && (List.range ops.size).all (fun j => !(ls.getD j false) || match ops[j]? with | some oj => oj.after.all (fun e => !(Region.binds md e) || ls.getD e.on false) | none => true) && (List.range ops.size).all (fun t => decide (t < N) || !(ls.getD t true))
theorem headB_inv {N : Nat} {ls : Array Bool} (h : headB md ops N ls = true) : HeadInv md ops N ls := by
  unfold headB at h
  simp only [Bool.and_eq_true, decide_eq_true_eq, List.all_eq_true, List.mem_range] at h
  obtain ⟨⟨h1, h2⟩, h3⟩ := h
  refine ⟨h1, fun j oj hj hl e he hb => ?_, fun t ht htl => ?_⟩
  · have q := h2 j (Array.getElem?_eq_some_iff.1 hj).1
    rw [hl, hj] at q
    simp only [Bool.not_true, Bool.false_or, Array.all_eq_true'] at q
    have := q e he
    rw [hb] at this
    simpa using this
  · have q := h3 t htl
    have : ¬ t < N := by omega
    simpa [this] using q
/-- What is left beside i has nothing to do with it, or waits for it. -/
def Frees (md : Region.Mode) (ops : Array Oper) (i : Nat) (oi : Oper) (ls : Array Bool) : Prop := ∀ j oj, ops[j]? = some oj → j ≠ i → ls.getD j true = false → (∀ e ∈ oj.after, Region.binds md e = true → e.on ≠ i) → oi.apart ops oj = true
theorem Frees.set {i j : Nat} {oi : Oper} {ls : Array Bool} (h : Frees md ops i oi ls) (hj : ls.getD j true = false) : Frees md ops i oi (ls.setIfInBounds j true) := fun k ok hk hki hl hn => by
  refine h k ok hk hki ?_ hn
  by_cases e : j = k
  · exact e ▸ hj
  · rwa [getD_set_ne true e] at hl
theorem not_after {i : Nat} {oj : Oper} {ls : Array Bool} (hi : ls.getD i true = false) (hall : ∀ e ∈ oj.after, Region.binds md e = true → ls.getD e.on false = true) : ∀ e ∈ oj.after, Region.binds md e = true → e.on ≠ i := fun e he hb k => by
  have q := hall e he hb
  rw [k] at q
  simp only [Array.getD_eq_getD_getElem?] at q hi
  cases h : ls[i]? with
  | none => rw [h] at q; cases q
  | some b => rw [h] at q hi; simp at q hi; rw [q] at hi; cases hi
theorem wpLast_front {i : Nat} {oi : Oper} {v : Value} (hi : ops[i]? = some oi) (hsel : Region.noSelect ops = true) (hQ : ∀ c a w, Q (.panic c) (a.put oi.dst v) w → Q (.panic c) a w) {N : Nat} (hsk : Region.sinkB md ops N = true) (hch : Region.chainB md ops N = true) (hN : N < ops.size) (hiN : i < N) (n : Nat) :
    ∀ (ls : Array Bool) (a : Act) (w : World), HeadInv md ops N ls → Frees md ops i oi ls → i ∈ Region.ready md ops ls → YieldsIf P ops S oi v a → S w → wpLast P md ops Q S N n (ls.setIfInBounds i true) (a.put oi.dst v) w → wpLast P md ops Q S N (n + 1) ls a w := by
  have hs := Region.noSelect_spec hsel
  induction n with
  | zero =>
    intro ls a w _ _ hr hy hS H
    refine ⟨fun e => absurd (e ▸ hr) (by simp), fun j hj => ?_⟩
    have : j = i := Decidable.byContradiction fun e => absurd (H.1 ▸ ready_mono hj e) (by simp)
    subst this
    exact hy.wpOp hi hS ⟨fun _ => hS, H⟩
  | succ n ih =>
    intro ls a w inv hf hr hy hS H
    refine ⟨fun e => absurd (e ▸ hr) (by simp), fun j hj => ?_⟩
    rcases Decidable.em (j = i) with rfl | hne
    · exact hy.wpOp hi hS ⟨fun _ => hS, H⟩
    have hjN : j < N := Decidable.byContradiction fun e => tail_waits hsk hch hN inv _ i rfl hiN (mem_ready.1 hr).1 j (by omega) hj
    obtain ⟨hl, oj, hoj, hall⟩ := mem_ready.1 hj
    have hap := hf j oj hoj hne hl (not_after (mem_ready.1 hr).1 hall)
    have key := wpOp_putIf hoj hap (fun cs b => hs i oi cs b hi) (fun cs b => hs j oj cs b hoj) hQ hy (H.2 j (ready_mono hj hne))
    refine wpOp_mono (fun b z q => ?_) key
    obtain ⟨qy, qS, qH⟩ := q
    have hSz : S z := qS hjN
    refine ⟨fun _ => hSz, ih _ b z (inv.set hj hjN) (hf.set hl) (ready_mono hr (Ne.symm hne)) qy hSz ?_⟩
    rw [Array.setIfInBounds_comm _ _ hne]
    exact qH
theorem wpLast_take (i : Nat) (v : Value) {N : Nat} {d : Option Tmp} {op : Op} {ty : TypeId} {pos : String} {aft} {gd} {n : Nat} {ls : Array Bool} {a : Act} {w : World} (hi : ops[i]? = some ⟨d, op, ty, pos, aft, gd⟩)
    (hs : Region.noSelect ops = true) (hf : Region.free md ops ls i = true) (hr : (Region.ready md ops ls).contains i = true) (hh : (Region.sinkB md ops N && Region.chainB md ops N && decide (N < ops.size) && decide (i < N) && headB md ops N ls) = true)
    (hQ : ∀ c a w, Q (.panic c) (a.put d v) w → Q (.panic c) a w) (hy : YieldsIf P ops S ⟨d, op, ty, pos, aft, gd⟩ v a) (hS : S w)
    (h : wpLast P md ops Q S N n (ls.setIfInBounds i true) (a.put d v) w) : wpLast P md ops Q S N (n + 1) ls a w :=
  by
  simp only [Bool.and_eq_true, decide_eq_true_eq] at hh
  obtain ⟨⟨⟨⟨h1, h2⟩, h3⟩, h4⟩, h5⟩ := hh
  exact wpLast_front hi hs hQ h1 h2 h3 h4 n ls a w (headB_inv h5) (Region.free_spec hi hf) (by simpa using hr) hy hS h
theorem wpLast_one {N i n : Nat} {o : Oper} {ls : Array Bool} {a : Act} {w : World} (hr : Region.ready md ops ls = [i]) (ho : ops[i]? = some o)
    (h : ∀ K : Act → World → Prop, Shut (∀ b z, (i < N → S z) → wpLast P md ops Q S N n (ls.setIfInBounds i true) b z → K b z) → if Region.wanted o (yielded ops a.tmps) = true then Oper.wp P o a w K Q else K (a.put o.dst undef) w) : wpLast P md ops Q S N (n + 1) ls a w := by
  refine ⟨fun e => absurd (hr ▸ e) (by simp), fun j hj => ?_⟩
  rw [hr] at hj
  obtain rfl := List.mem_singleton.1 hj
  exact wpOp_step ho (fun K hK => h K (fun b z h1 h2 => hK b z ⟨h1, h2⟩))
theorem wpLast_done {N : Nat} {ls : Array Bool} {a : Act} {w : World} (hr : Region.ready md ops ls = []) (h : Q .normal a w) : ∀ n, wpLast P md ops Q S N n ls a w
  | 0 => ⟨hr, h⟩
  | _ + 1 => ⟨fun _ => h, by rw [hr]; simp⟩
theorem wp_region_last {id : Nat} (N : Nat) {a : Act} {w : World} (hm : P.follows .mixedOrders = true) (h : wpLast P .any ops Q S N ops.size (Array.replicate ops.size false) a w.drew) : (Code.region id ops true).wp P Q a w := wp_region_any hm (wpLast_any h)
end

theorem EtAt.cells {W : World} {b n c : Nat} {l : List En} (h : EtAt W (.slice (some ⟨b, 0, none⟩) n c) l) (j : Nat) (u : Value) (hj : (flE l)[j]? = some u) : W.cell? ⟨b, j, none⟩ = some u := by
  have hlt : j < l.length * 4 := by have := (List.getElem?_eq_some_iff.1 hj).1; rwa [flE_len] at this
  have hq : j / 4 < l.length := by omega
  obtain ⟨b', e, _, c0, c1, c2, c3⟩ := h.nth hq
  obtain rfl : b = b' := by injection e with e; injection e with e
  obtain ⟨q0, q1, q2, q3⟩ := flE_get l (j / 4) hq
  have : j = j / 4 * 4 ∨ j = j / 4 * 4 + 1 ∨ j = j / 4 * 4 + 2 ∨ j = j / 4 * 4 + 3 := by omega
  rcases this with e | e | e | e <;> rw [e] at hj ⊢
  · rw [q0] at hj; rw [c0, hj]
  · rw [q1] at hj; rw [c1, hj]
  · rw [q2] at hj; rw [c2, hj]
  · rw [q3] at hj; rw [c3, hj]
theorem flE_app (a b : List En) : flE (a ++ b) = flE a ++ flE b := by simp [flE]
theorem flE_take {l : List En} {i j : Nat} {u : Value} (h : (flE (l.take i))[j]? = some u) : (flE l)[j]? = some u := by
  rw [← List.take_append_drop i l, flE_app, List.getElem?_append_left (List.getElem?_eq_some_iff.1 h).1]
  exact h
theorem flE_drop {l : List En} {i j : Nat} {u : Value} (hi : i ≤ l.length) (h : (flE (l.drop i))[j]? = some u) : (flE l)[i * 4 + j]? = some u := by
  have e : (flE (l.take i)).length = i * 4 := by rw [flE_len]; simp; omega
  rw [← List.take_append_drop i l, flE_app, List.getElem?_append_right (by omega), e]
  simpa using h
theorem flE_one {l : List En} (h : ∀ x ∈ l, x.2.2.oneCell' = true) : ∀ u ∈ flE l, u.oneCell' = true := fun u hu => by
  obtain ⟨x, hx, hu⟩ := List.mem_flatMap.1 hu
  simp only [List.mem_cons, List.not_mem_nil, or_false] at hu
  rcases hu with rfl | rfl | rfl | rfl <;> first | rfl | exact h x hx
theorem Try.elem39 : Try.prog.elem 39 = 84 := by kernel_rfl
theorem sizeOf_84 (Z : World) : (sizeOf 84).run Try.prog Z = .ok 4 Z := by
  simp [sizeOf, go_sem]
  rfl
theorem Try.und39 : Try.prog.underlying 39 = some (.slice (Try.prog.elem 39)) := by rw [Try.elem39]; exact Try.underlying39

/-- One is gone. -/
def RemP (W : World) (rx : Nat) (l : List En) (id : Int) (W' : World) : Prop := ∃ (i : Nat) (x : En), l[i]? = some x ∧ x.1 = id ∧ ∃ v', Dx W' rx v' (l.take i ++ l.drop (i + 1)) ∧ (∀ g, vblk v' = some g → W.heap.size ≤ g) ∧ Only [rx] W W'
set_option maxRecDepth 100000 in
set_option maxHeartbeats 8000000 in
theorem rremove_any (rx : Nat) (v : Value) (l : List En) (hlen : l.length ≤ 1048576) (hones : ∀ x ∈ l, x.2.2.oneCell' = true) (id : Int) (W : World) (hD : Dx W rx v l) :
    Calls Try.prog 21 #[.pointer (some ⟨rx, 0, none⟩), .int .i64 id] W fun e W' => (NoId l id ∧ e = .returned (.bool false) ∧ Below W.heap.size W W') ∨ (e = .returned (.bool true) ∧ RemP W rx l id W') := by
  obtain ⟨i0, hi0, hz0, hz1, hz2⟩ := info_parts Try.info84q
  obtain ⟨a1, c1, rfl, hc1, hm1⟩ := hD.row.slice
  have lrx := (Array.getElem?_eq_some_iff.1 hD.box).1
  have HX : Hid (∀ Z, Below W.heap.size W Z → Dx Z rx (.slice a1 l.length c1) l) := fun Z hZ => hD.keep hZ
  have HL : Hid (rx < W.heap.size) := lrx
  clear hD lrx
  go_enter Try.func21, Try.ntmps21
  go_wp2
  go_loopw [5] (fun vi wr => ∃ (i : Nat), vi = .int .i64 i ∧ i ≤ l.length ∧ Hid (Below W.heap.size W wr ∧ NoId (l.take i) id)) (fun vi _ => l.length - (intOf vi).toNat)
  case atStart => exact ⟨0, rfl, Nat.zero_le _, Below.refl _ _, fun x hx => by simp at hx⟩
  case round =>
    obtain ⟨i, rfl, hi, HI⟩ := hrel
    have hDz := HX.out wr HI.out.1
    have cx := hDz.cell
    by_cases hlt : i < l.length
    · have hiI : (i : Int) < (l.length : Int) := by omega
      have hn0 : (0 : Int) ≤ (i : Int) := by omega
      obtain ⟨bb, rfl, hbb, z0, z1, z2, z3⟩ := hDz.row.nth hlt
      obtain ⟨x, hx⟩ : ∃ x, l[i] = x := ⟨_, rfl⟩
      rw [hx] at z0 z1 z2 z3
      have HE : Hid (i < l.length ∧ l[i]? = some x) := ⟨hlt, by rw [List.getElem?_eq_getElem hlt, hx]⟩
      by_cases hxi : x.1 = id
      · rw [hxi] at z0
        obtain ⟨Wd, hWd⟩ : ∃ X, wr.drew = X := ⟨_, rfl⟩
        have hd : Below wr.heap.size wr Wd := by rw [← hWd]; exact (Below.refl _ wr).drew
        have HB : Hid (Below W.heap.size W Wd) := HI.out.1.trans (hd.mono HI.out.1.size)
        have HR : Hid (∀ Z, Below W.heap.size W Z → Z.cell? ⟨rx, 0, none⟩ = some (.slice (some ⟨bb, 0, none⟩) l.length c1) ∧ True) := fun Z hZ => ⟨(HX.out Z hZ).cell, trivial⟩
        have hs1 : ∀ Z, (Instr.sliceAt 39 (.slice (some ⟨bb, 0, none⟩) l.length c1) none (some (.int .i64 (i : Int))) none).run Try.prog Z = .ok (.slice (some ⟨bb, 0, none⟩) i c1) Z := fun Z => by
          rw [run_sliceAt_slice _ 39 _ _ _ _ Try.und39, run_slice_h _ 39 _ _ _ Try.und39 .i64 (i : Int) (by omega) (by omega)]
          have hc : ¬ c1 = 0 := by omega
          simp [Try.elem39, Result.andThen, sliced, hc, Addr.add]
        have hs2 : ∀ Z, (Instr.sliceAt 39 (.slice (some ⟨bb, 0, none⟩) l.length c1) (some (.int .i64 ((i : Int) + 1))) none none).run Try.prog Z = .ok (.slice (some ⟨bb, if c1 = i + 1 then 0 else (i + 1) * 4, none⟩) (l.length - (i + 1)) (c1 - (i + 1))) Z := fun Z => by
          rw [run_sliceAt_slice _ 39 _ _ _ _ Try.und39, run_slice_l _ 39 _ _ _ Try.und39 .i64 ((i : Int) + 1) (by omega) (by omega)]
          have hc : ((i : Int) + 1).toNat = i + 1 := by omega
          simp only [Try.elem39, sizeOf_84, Result.andThen, sliced, hc]
          by_cases h : c1 = i + 1
          · simp [h]
          · simp [h, Addr.add]
        have hwr : IntKind.i64.wrap ((i : Int) + 1) = (i : Int) + 1 := wrap_small _ (by omega) (by omega)
        obtain ⟨of, hof⟩ : ∃ o, (if c1 = i + 1 then 0 else (i + 1) * 4) = o := ⟨_, rfl⟩
        rw [hof] at hs2
        have HOf : Hid ((if c1 = i + 1 then 0 else (i + 1) * 4) = of) := hof
        clear hof
        have HDx : Hid (i < l.length ∧ l[i]? = some x ∧ x.1 = id) := ⟨HE.out.1, HE.out.2, hxi⟩
        clear hDz hbb hd HE
        go_wp2
        refine wp_region_last 19 (S := fun Z => Below W.heap.size W Z) (by kernel_rfl) ?_
        rw [hWd]
        have hHeld := HB.out
        refine wpLast_take 0 (.pointer (some ⟨rx, 0, none⟩)) rfl (by kernel_rfl) (by kernel_rfl) (by kernel_rfl) (by kernel_rfl) (fun _ _ _ h => h) (Or.inl ⟨by rfl, fun Z hZ => by go_simp⟩) (by assumption) ?_
        try simp only [Act.put, List.setIfInBounds_toArray, List.set_cons_zero, List.set_cons_succ]
        refine wpLast_take 2 (.pointer (some ⟨rx, 0, none⟩)) rfl (by kernel_rfl) (by kernel_rfl) (by kernel_rfl) (by kernel_rfl) (fun _ _ _ h => h) (Or.inl ⟨by rfl, fun Z hZ => by go_simp⟩) (by assumption) ?_
        try simp only [Act.put, List.setIfInBounds_toArray, List.set_cons_zero, List.set_cons_succ]
        refine wpLast_take 3 (.pointer (some ⟨rx, 0, none⟩)) rfl (by kernel_rfl) (by kernel_rfl) (by kernel_rfl) (by kernel_rfl) (fun _ _ _ h => h) (Or.inl ⟨by rfl, fun Z hZ => by go_simp⟩) (by assumption) ?_
        try simp only [Act.put, List.setIfInBounds_toArray, List.set_cons_zero, List.set_cons_succ]
        refine wpLast_take 4 (.pointer (some ⟨rx, 0, none⟩)) rfl (by kernel_rfl) (by kernel_rfl) (by kernel_rfl) (by kernel_rfl) (fun _ _ _ h => h) (Or.inl ⟨by rfl, fun Z hZ => by go_simp⟩) (by assumption) ?_
        try simp only [Act.put, List.setIfInBounds_toArray, List.set_cons_zero, List.set_cons_succ]
        refine wpLast_take 5 (.slice (some ⟨bb, 0, none⟩) l.length c1) rfl (by kernel_rfl) (by kernel_rfl) (by kernel_rfl) (by kernel_rfl) (fun _ _ _ h => h) (Or.inl ⟨by rfl, fun Z hZ => by obtain ⟨u0, u1⟩ := HR.out Z hZ; go_simp⟩) (by assumption) ?_
        try simp only [Act.put, List.setIfInBounds_toArray, List.set_cons_zero, List.set_cons_succ]
        refine wpLast_take 6 (.int .i64 (i : Int)) rfl (by kernel_rfl) (by kernel_rfl) (by kernel_rfl) (by kernel_rfl) (fun _ _ _ h => h) (Or.inl ⟨by rfl, fun Z hZ => by go_simp⟩) (by assumption) ?_
        try simp only [Act.put, List.setIfInBounds_toArray, List.set_cons_zero, List.set_cons_succ]
        refine wpLast_take 7 (.slice (some ⟨bb, 0, none⟩) i c1) rfl (by kernel_rfl) (by kernel_rfl) (by kernel_rfl) (by kernel_rfl) (fun _ _ _ h => h) (Or.inl ⟨by rfl, fun Z hZ => by go_simp⟩) (by assumption) ?_
        try simp only [Act.put, List.setIfInBounds_toArray, List.set_cons_zero, List.set_cons_succ]
        refine wpLast_take 9 (.pointer (some ⟨rx, 0, none⟩)) rfl (by kernel_rfl) (by kernel_rfl) (by kernel_rfl) (by kernel_rfl) (fun _ _ _ h => h) (Or.inl ⟨by rfl, fun Z hZ => by go_simp⟩) (by assumption) ?_
        try simp only [Act.put, List.setIfInBounds_toArray, List.set_cons_zero, List.set_cons_succ]
        refine wpLast_take 10 (.pointer (some ⟨rx, 0, none⟩)) rfl (by kernel_rfl) (by kernel_rfl) (by kernel_rfl) (by kernel_rfl) (fun _ _ _ h => h) (Or.inl ⟨by rfl, fun Z hZ => by go_simp⟩) (by assumption) ?_
        try simp only [Act.put, List.setIfInBounds_toArray, List.set_cons_zero, List.set_cons_succ]
        refine wpLast_take 11 (.pointer (some ⟨rx, 0, none⟩)) rfl (by kernel_rfl) (by kernel_rfl) (by kernel_rfl) (by kernel_rfl) (fun _ _ _ h => h) (Or.inl ⟨by rfl, fun Z hZ => by go_simp⟩) (by assumption) ?_
        try simp only [Act.put, List.setIfInBounds_toArray, List.set_cons_zero, List.set_cons_succ]
        refine wpLast_take 12 (.slice (some ⟨bb, 0, none⟩) l.length c1) rfl (by kernel_rfl) (by kernel_rfl) (by kernel_rfl) (by kernel_rfl) (fun _ _ _ h => h) (Or.inl ⟨by rfl, fun Z hZ => by obtain ⟨u0, u1⟩ := HR.out Z hZ; go_simp⟩) (by assumption) ?_
        try simp only [Act.put, List.setIfInBounds_toArray, List.set_cons_zero, List.set_cons_succ]
        refine wpLast_take 13 (.int .i64 (i : Int)) rfl (by kernel_rfl) (by kernel_rfl) (by kernel_rfl) (by kernel_rfl) (fun _ _ _ h => h) (Or.inl ⟨by rfl, fun Z hZ => by go_simp⟩) (by assumption) ?_
        try simp only [Act.put, List.setIfInBounds_toArray, List.set_cons_zero, List.set_cons_succ]
        refine wpLast_take 14 (.int .i64 ((i : Int) + 1)) rfl (by kernel_rfl) (by kernel_rfl) (by kernel_rfl) (by kernel_rfl) (fun _ _ _ h => h) (Or.inl ⟨by rfl, fun Z hZ => by go_simp⟩) (by assumption) ?_
        try simp only [Act.put, List.setIfInBounds_toArray, List.set_cons_zero, List.set_cons_succ]
        refine wpLast_take 15 (.slice (some ⟨bb, of, none⟩) (l.length - (i + 1)) (c1 - (i + 1))) rfl (by kernel_rfl) (by kernel_rfl) (by kernel_rfl) (by kernel_rfl) (fun _ _ _ h => h) (Or.inl ⟨by rfl, fun Z hZ => by go_simp⟩) (by assumption) ?_
        try simp only [Act.put, List.setIfInBounds_toArray, List.set_cons_zero, List.set_cons_succ]
        refine wpLast_one (i := 1) (o := ⟨_, _, _, _, _, _⟩) (by kernel_rfl) rfl (fun KK hK => ?_)
        rw [if_pos (by rfl)]
        go_simp
        obtain ⟨gd, hgd⟩ : ∃ n, Wd.heap.size = n := ⟨_, rfl⟩
        obtain ⟨P3, eP3⟩ : ∃ Z, Wd.alloc (.cells #[] 84) = Z := ⟨_, rfl⟩
        have bP3 : Below W.heap.size W P3 := by rw [← eP3]; exact HB.out.trans ((below_box Wd _).mono HB.out.size)
        have h3 : P3.heap[gd]? = some (.cells #[] 84 (0, 0)) := by rw [← eP3, ← hgd]; exact (MapKept.heap_alloc _ _).1
        have R3 : P3.ownsRow W.heap.size 84 4 (.slice (some ⟨gd, 0, none⟩) 0 0) 0 (flE []) := ⟨rfl, .inr ⟨gd, 0, #[], rfl, by rw [← hgd]; exact HB.out.size, h3, Nat.le_refl _, by unfold maxLen; omega, rfl, rfl⟩⟩
        rw [eP3, hgd]
        refine hK.out _ _ (fun _ => bP3) ?_
        clear hK KK
        try simp only [Act.put, List.setIfInBounds_toArray, List.set_cons_zero, List.set_cons_succ]
        refine wpLast_one (i := 8) (o := ⟨_, _, _, _, _, _⟩) (by kernel_rfl) rfl (fun KK hK => ?_)
        refine step_append_own P3 rfl (.tmp 26) (.tmp 32) 39 rfl W.heap.size 84 i0 _ 4 56 Try.underlying39 hi0 hz0 hz1 hz2 rfl (by decide) (.slice (some ⟨gd, 0, none⟩) 0 0) 0 (flE []) rfl R3 ⟨bb, 0, none⟩ i c1 (flE (l.take i)) rfl (by rw [flE_len]; simp; omega) (fun j u hj => by rw [Addr.add_mid, Nat.zero_add]; exact (HX.out P3 bP3).row.cells j u (flE_take hj)) (flE_one (fun x hx => hones x (List.mem_of_mem_take hx))) (by unfold maxLen; omega) (by omega) bP3.size ?_
        intro v5 P4 hr5 hgr5 _
        have BP4 : Below W.heap.size W P4 := bP3.trans (below_of_grown hgr5 bP3.size (fun g e => (row_block R3 e).1))
        refine hK.out _ _ (fun _ => BP4) ?_
        clear hK KK
        try simp only [Act.put, List.setIfInBounds_toArray, List.set_cons_zero, List.set_cons_succ]
        refine wpLast_one (i := 16) (o := ⟨_, _, _, _, _, _⟩) (by kernel_rfl) rfl (fun KK hK => ?_)
        refine step_append_own P4 rfl (.tmp 33) (.tmp 40) 39 rfl W.heap.size 84 i0 _ 4 56 Try.underlying39 hi0 hz0 hz1 hz2 rfl (by decide) v5 (0 + i) (flE [] ++ flE (l.take i)) rfl hr5 ⟨bb, of, none⟩ (l.length - (i + 1)) (c1 - (i + 1)) (flE (l.drop (i + 1))) rfl (by rw [flE_len]; simp) (fun j u hj => by
          have hq := flE_drop HDx.out.1 hj
          have hjl : j < (l.length - (i + 1)) * 4 := by have := (List.getElem?_eq_some_iff.1 hj).1; rw [flE_len] at this; simpa using this
          have hne : ¬ c1 = i + 1 := by omega
          rw [← HOf.out, if_neg hne, Addr.add_mid]
          exact (HX.out P4 BP4).row.cells _ u hq) (flE_one (fun x hx => hones x (List.mem_of_mem_drop hx))) (by unfold maxLen; omega) (by omega) BP4.size ?_
        intro v6 P5 hr6 hgr6 _
        have BP5 : Below W.heap.size W P5 := BP4.trans (below_of_grown hgr6 BP4.size (fun g e => (row_block hr5 e).1))
        refine hK.out _ _ (fun _ => BP5) ?_
        clear hK KK
        try simp only [Act.put, List.setIfInBounds_toArray, List.set_cons_zero, List.set_cons_succ]
        refine wpLast_take 17 (.pointer (some ⟨rx, 0, none⟩)) rfl (by kernel_rfl) (by kernel_rfl) (by kernel_rfl) (by kernel_rfl) (fun _ _ _ h => h) (Or.inl ⟨by rfl, fun Z hZ => by go_simp⟩) (by assumption) ?_
        try simp only [Act.put, List.setIfInBounds_toArray, List.set_cons_zero, List.set_cons_succ]
        refine wpLast_take 18 (.pointer (some ⟨rx, 0, none⟩)) rfl (by kernel_rfl) (by kernel_rfl) (by kernel_rfl) (by kernel_rfl) (fun _ _ _ h => h) (Or.inl ⟨by rfl, fun Z hZ => by go_simp⟩) (by assumption) ?_
        try simp only [Act.put, List.setIfInBounds_toArray, List.set_cons_zero, List.set_cons_succ]
        have hDz := HX.out P5 BP5
        simp only [Nat.zero_add] at hr6
        obtain ⟨a6, c6, rfl⟩ := row_slice hr6
        have cz := hDz.cell
        have fz : P5.frozen? ⟨rx, 0, none⟩ = false := by simp [World.frozen?, hDz.box]
        have HF : Hid (RemP W rx l id (P5.setCell ⟨rx, 0, none⟩ (.slice a6 (i + (l.length - (i + 1))) c6))) := by
          refine ⟨i, x, HDx.out.2.1, HDx.out.2.2, _, dx_set (Below.refl _ W) HL.out BP5 hDz.box ?_⟩
          have : (l.take i ++ l.drop (i + 1)).length = i + (l.length - (i + 1)) := by simp; have := HDx.out.1; omega
          rw [flE_app, this]
          simpa [flE] using hr6
        refine wpLast_one (i := 19) (o := ⟨_, _, _, _, _, _⟩) (by kernel_rfl) rfl (fun KK hK => ?_)
        rw [if_pos (by rfl)]
        clear hDz hr6 hgr6 BP5 hr5 hgr5 BP4 bP3 h3 R3 hHeld hs1 hs2
        go_simp
        refine hK.out _ _ (fun h => absurd h (by omega)) ?_
        clear hK KK
        refine wpLast_done (by kernel_rfl) ?_ _
        try simp only [Act.put]
        go_wp2
        go_ret
        exact .inr ⟨rfl, HF.out⟩
      · have hxI : ¬ (x.1 == id) = true := by simpa using hxi
        have HR : Hid (NoId (l.take (i + 1)) id) := fun y hy => by
          rw [List.take_succ_eq_append_getElem hlt, hx] at hy
          rcases List.mem_append.1 hy with hy | hy
          · exact HI.out.2 y hy
          · rw [List.mem_singleton.1 hy]; exact hxi
        clear hDz hbb
        go_wp2
        go_roundw
        case rel => exact ⟨i + 1, by go_num, by have := HE.out.1; omega, HI.out.1, HR.out⟩
        case measure => simp [intOf]; have := HE.out.1; omega
    · have hiI : ¬ (i : Int) < (l.length : Int) := by omega
      have e : l.take i = l := List.take_of_length_le (by omega)
      have HF : Hid (NoId l id ∧ Below W.heap.size W wr) := ⟨by have := HI.out.2; rwa [e] at this, HI.out.1⟩
      clear hDz
      go_wp2
      go_ret
      exact .inl ⟨HF.out.1, rfl, HF.out.2⟩

end Go.Proofs.Ytiklbkkimmgbcaa
