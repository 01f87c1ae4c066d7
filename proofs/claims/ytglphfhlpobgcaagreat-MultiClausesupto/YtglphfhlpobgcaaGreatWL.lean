import Derived.Test.YtglphfhlpobgcaaGreatWJ
import Derived.Test.YtglphfhlpobgcaaGreatWK
namespace Go.Proofs.YtglphfhlpobgcaaGreat
set_option maxRecDepth 100000
set_option maxHeartbeats 4000000
open Go.RowKit Go.Maps
theorem zeroI (w : World) : (zeroValue 3).run Tryz.prog w = .ok (.int .i64 0) w := Tryz.zeroValue3 w
theorem pairv_inj {i j i' j' : Nat} (h : pairv i j = pairv i' j') : i = i' ∧ j = j' := by
 have := Value.agg.inj h
 simp only [Array.mk.injEq, List.cons.injEq, Value.int.injEq, true_and, and_true] at this
 omega
section
variable {g : Sg} {ρ : ByteArray × Nat -> Nat} {ν : Int -> Nat} {nw : Nat} {L : List T} {w0 : World} {bc bp bf bm : Nat} {vp : Value} {s : Int}
theorem Cm.look {W : World} (h : Cm w0 g L bc bp bf bm vp W) (H : L.length <= 8000) {i j : Nat} (hi : i < L.length) (hj : j < L.length) :
  (Instr.lookup 131 (.map (some bm)) (pairv i j) true).run Tryz.prog W = .ok (.tuple #[.int .i64 (pcmp g L[i] L[j]), .bool true]) W ∨ (Instr.lookup 131 (.map (some bm)) (pairv i j) true).run Tryz.prog W = .ok (.tuple #[.int .i64 0, .bool false]) W := by
 obtain ⟨m, K, h1, h2, h3, h4⟩ := h.mp
 obtain ⟨kl, hk⟩ := pair_key (i := i) (j := j) (by omega) (by omega)
 have := h1.look keyed111 Tryz.underlying131 (zeroI W) hk
 rcases h4 i j hi hj with ⟨e, _⟩ | ⟨e, _⟩
 ·exact .inr (this.2 e).1
 ·exact .inl (this.1 _ e).1
theorem Cm.put {W : World} (h : Cm w0 g L bc bp bf bm vp W) (H : L.length <= 8000) {i j : Nat} (hi : i < L.length) (hj : j < L.length) :
  ∃ W', (Instr.mapUpdate 131 (.map (some bm)) (pairv i j) (.int .i64 (pcmp g L[i] L[j]))).run Tryz.prog W = .ok () W' ∧ Cm w0 g L bc bp bf bm vp W' ∧ Only [bm] W W' := by
 obtain ⟨m, K, h1, h2, h3, h4⟩ := h.mp
 obtain ⟨kl, hk⟩ := pair_key (i := i) (j := j) (by omega) (by omega)
 have hb := pairs_bound h2 h3
 have hb2 : L.length * L.length <= 8000 * 8000 := Nat.mul_le_mul H H
 obtain ⟨W', r1, r2, r3⟩ := h1.put keyed111 Tryz.underlying131 (by unfold maxLen; omega) hk (.int .i64 (pcmp g L[i] L[j]))
 have ho : Only [bm] W W' := Only.of_grown r3 (fun r e => by cases e; simp)
 obtain ⟨l1, l2, l3⟩ := h.lt
 obtain ⟨n1, n2, n3⟩ := h.ne
 have hsz := ho.size
 refine ⟨W', r1, ⟨h.bel.trans (ho.below h.bel.size (by simp; exact h.lo)), h.lo, cell_only ho l1 (by simp; exact n1) h.cc, cell_only ho l2 (by simp; exact n2) h.cp, cell_only ho l3 (by simp; exact n3) h.cf, ⟨by omega, by omega, by omega⟩, h.ne, ?_⟩, ho⟩
 have other : ∀ i' j', (i', j') ≠ (i, j) -> upd m (pairv i j) (.int .i64 (pcmp g L[i] L[j])) (pairv i' j') = m (pairv i' j') := fun i' j' hne => by
  unfold upd
  rw [if_neg]
  intro e
  obtain ⟨e1, e2⟩ := pairv_inj e
  exact hne (by rw [e1, e2])
 have same : upd m (pairv i j) (.int .i64 (pcmp g L[i] L[j])) (pairv i j) = some (.int .i64 (pcmp g L[i] L[j])) := by
  unfold upd
  rw [if_pos rfl]
 rcases h4 i j hi hj with ⟨e, hK⟩ | ⟨e, hK⟩
 ·rw [e] at r2
  refine ⟨_, K ++ [(i, j)], by simpa using r2, ?_, ?_, ?_⟩
  ·rw [List.nodup_append]
   refine ⟨h2, by simp, fun x hx y hy => ?_⟩
   have : y = (i, j) := by simpa using hy
   subst this
   exact fun e => hK (e ▸ hx)
  ·intro p hp
   rcases List.mem_append.1 hp with hp | hp
   ·exact h3 p hp
   ·have : p = (i, j) := by simpa using hp
    subst this
    exact ⟨hi, hj⟩
  ·intro i' j' hi' hj'
   by_cases ee : (i', j') = (i, j)
   ·obtain ⟨rfl, rfl⟩ := Prod.mk.inj ee
    exact .inr ⟨same, by simp⟩
   ·rw [other i' j' ee]
    rcases h4 i' j' hi' hj' with ⟨a, b⟩ | ⟨a, b⟩
    ·exact .inl ⟨a, by simp only [List.mem_append, List.mem_singleton, not_or]; exact ⟨b, ee⟩⟩
    ·exact .inr ⟨a, List.mem_append_left _ b⟩
 ·rw [e] at r2
  refine ⟨_, K, r2, h2, h3, ?_⟩
  intro i' j' hi' hj'
  by_cases ee : (i', j') = (i, j)
  ·obtain ⟨rfl, rfl⟩ := Prod.mk.inj ee
   exact .inr ⟨same, hK⟩
  ·rw [other i' j' ee]
   exact h4 i' j' hi' hj'
theorem cmp_lt (H : Lst g ρ ν nw L) (hP : Pts ρ ν nw L w0 vp) (hOk : CmpOk w0 g L bc bp bf bm vp s) {i j : Nat} (hi : i < L.length) (hj : j < L.length) (hij : i < j) (hs : L[i].size + L[j].size <= s + 1) (w : World) (hC : Cm w0 g L bc bp bf bm vp w) :
  Calls Tryz.prog 84 #[.int .i16 (i : Int), .int .i16 (j : Int), .pointer (some ⟨bc, 0, none⟩), .pointer (some ⟨bp, 0, none⟩), .pointer (some ⟨bf, 0, none⟩)] w fun e W' => e = .returned (.int .i64 (pcmp g L[i] L[j])) ∧ Cm w0 g L bc bp bf bm vp W' ∧ Only [bm] w W' := by
 obtain ⟨a, c, rfl, hc, hm, hpt⟩ := hP
 obtain ⟨b, o, sA1, ar1, sV1, ws1, rfl, h1⟩ := hpt i hi
 obtain ⟨b', o', sA2, ar2, sV2, ws2, e', h2⟩ := hpt j hj
 obtain ⟨rfl, rfl⟩ : b' = b ∧ o' = o := by
  have := Option.some.inj e'
  simp only [Addr.mk.injEq, and_true] at this
  exact ⟨this.1.symm, this.2.symm⟩
 have hne : L[i] ≠ L[j] := fun e => by have := nd_inj H.nd hi hj e; omega
 have g1 : (i == j) = false := by rw [beq_eq_false_iff_ne]; omega
 have g1' : ((i : Int) == (j : Int)) = false := by rw [beq_eq_false_iff_ne]; omega
 have g2 : decide (j < i) = false := decide_eq_false (by omega)
 have hat : ∀ W, Below w.heap.size w W -> Calls Tryz.prog 86 #[.pointer (some ⟨b', o' + i * 5, none⟩), .pointer (some ⟨b', o' + j * 5, none⟩)] W fun e w' => e = .returned (.tuple #[.int .i64 (aoX ar1.length ar2.length (lfB (L[i].top ρ) (L[j].rk ρ) (wthn ws2 ws1) (wthn ws1 ws2)) (lfB (L[j].top ρ) (L[i].rk ρ) (wthn ws1 ws2) (wthn ws2 ws1)) (wthn ws1 ws2) (wthn ws2 ws1)), .bool (aoT ar1.length ar2.length (wthn ws1 ws2) (wthn ws2 ws1))]) ∧ Below W.heap.size W w' := fun W hW => by
  have hb := hC.bel.trans (hW.mono hC.bel.size)
  exact atonce_any (h1.keep hb (Nat.le_refl _)) (h2.keep hb (Nat.le_refl _))
 have ha := ao_ok H (List.getElem_mem hi) (List.getElem_mem hj) hne h1.bt h2.bt
 have hno := ao_no (n1 := ar1.length) (n2 := ar2.length) (s12 := wthn ws1 ws2) (s21 := wthn ws2 ws1)
 rw [<- h1.alen, <- h2.alen] at ha
 obtain ⟨x, hx⟩ : ∃ x, aoX ar1.length ar2.length (lfB (L[i].top ρ) (L[j].rk ρ) (wthn ws2 ws1) (wthn ws1 ws2)) (lfB (L[j].top ρ) (L[i].rk ρ) (wthn ws1 ws2) (wthn ws2 ws1)) (wthn ws1 ws2) (wthn ws2 ws1) = x := ⟨_, rfl⟩
 obtain ⟨tl, htl⟩ : ∃ x, aoT ar1.length ar2.length (wthn ws1 ws2) (wthn ws2 ws1) = x := ⟨_, rfl⟩
 rw [hx] at hat ha
 rw [htl] at hat ha hno
 clear hx htl e'
 have cp := cell_far hC.lt.2.1 hC.cp
 have HH : Hid (Lst g ρ ν nw L ∧ CmpOk w0 g L bc bp bf bm (.slice (some ⟨b', o', none⟩) L.length c) s ∧ PtAt ρ ν nw L w0 i L[i] b' (o' + i * 5) sA1 ar1 sV1 ws1 ∧ PtAt ρ ν nw L w0 j L[j] b' (o' + j * 5) sA2 ar2 sV2 ws2 ∧ L[i].size + L[j].size <= s + 1 ∧ Cm w0 g L bc bp bf bm (.slice (some ⟨b', o', none⟩) L.length c) w) := ⟨H, hOk, h1, h2, hs, hC⟩
 have HIJ : Hid (i < j) := hij
 cases tl with
 | true =>
  have HV : Hid (x = pcmp g L[i] L[j]) := ha rfl
  clear H hOk h1 h2 hs hC hpt hne ha hno hij
  go_enter Tryz.func84, Tryz.ntmps84
  go_wp2
  refine wp_region_far (by kernel_rfl) ?_
  repeat (first | go_big_quiet_step (exact calls_far hat _) | quiet_step (exact calls_far hat _))
  refine wpQuiet_nil ?_
  intro _ hw'
  obtain ⟨pf, rfl⟩ := hw'
  go_wp2
  go_ret
  exact ⟨ret_i64 HV.out, HH.out.2.2.2.2.2.only (below_far w pf), Only.of_below (below_far w pf)⟩
 | false =>
  have HF : Hid (L[i].fn.size ≠ 0 ∧ L[j].fn.size ≠ 0) := by
   obtain ⟨k1, k2⟩ := hno rfl
   rw [h1.alen] at k1
   rw [h2.alen] at k2
   refine ⟨?_, ?_⟩
   ·rcases shape_cases (H.sh _ (List.getElem_mem hi)) with ⟨_, _, _, k⟩ | ⟨k, _⟩
    ·rw [k] at k1; exact absurd rfl k1
    ·exact k
   ·rcases shape_cases (H.sh _ (List.getElem_mem hj)) with ⟨_, _, _, k⟩ | ⟨k, _⟩
    ·rw [k] at k2; exact absurd rfl k2
    ·exact k
  clear H hOk h1 h2 hs hC hpt hne ha hno hij
  go_enter Tryz.func84, Tryz.ntmps84
  go_wp2
  refine wp_region_far (by kernel_rfl) ?_
  repeat (first | go_big_quiet_step (exact calls_far hat _) | quiet_step (exact calls_far hat _))
  refine wpQuiet_nil ?_
  intro _ hw'
  obtain ⟨pf, rfl⟩ := hw'
  clear hat cp
  have HW1 : Hid (Cm w0 g L bc bp bf bm (.slice (some ⟨b', o', none⟩) L.length c) (far w pf) ∧ Only [bm] w (far w pf)) := ⟨HH.out.2.2.2.2.2.only (below_far w pf), Only.of_below (below_far w pf)⟩
  generalize far w pf = W1 at HW1 ⊢
  have hbx := below_box W1 (.cells #[.int .i16 (i : Int), .int .i16 (j : Int)] 137)
  have hC2 := HW1.out.1.only hbx
  have cf := hC2.cf
  obtain ⟨p0, p1⟩ := box2_cells W1 (.int .i16 (i : Int)) (.int .i16 (j : Int)) 137
  have HW2 : Hid (Cm w0 g L bc bp bf bm (.slice (some ⟨b', o', none⟩) L.length c) (W1.alloc (.cells #[.int .i16 (i : Int), .int .i16 (j : Int)] 137)) ∧ Only [bm] w (W1.alloc (.cells #[.int .i16 (i : Int), .int .i16 (j : Int)] 137))) := ⟨hC2, HW1.out.2.trans (Only.of_below (B := [bm]) hbx) (by simp)⟩
  rcases hC2.look HH.out.1.len hi hj with hlk | hlk
  ·clear hC2 hbx
   generalize hz : pcmp g L[i] L[j] = z at hlk ⊢
   go_wp2
   go_ret
   exact ⟨ret_i64 hz.symm, HW2.out⟩
  ·have hd : Below (W1.alloc (.cells #[.int .i16 (i : Int), .int .i16 (j : Int)] 137)).heap.size (W1.alloc (.cells #[.int .i16 (i : Int), .int .i16 (j : Int)] 137)) (W1.alloc (.cells #[.int .i16 (i : Int), .int .i16 (j : Int)] 137)).drew := (Below.refl _ _).drew
   have hC2d := hC2.only hd
   have K1 : (W1.alloc (.cells #[.int .i16 (i : Int), .int .i16 (j : Int)] 137)).drew.cell? ⟨bp, 0, none⟩ = some (.slice (some ⟨b', o', none⟩) L.length c) ∧ (W1.alloc (.cells #[.int .i16 (i : Int), .int .i16 (j : Int)] 137)).drew.cell? ⟨bc, 0, none⟩ = some (cmpF bc bp bf) := ⟨hC2d.cp, hC2d.cc⟩
   have hcall := decide_any HH.out.1 HH.out.2.1 hi hj (by have := HIJ.out; omega) HH.out.2.2.1 HH.out.2.2.2.1 HF.out.1 HF.out.2 HH.out.2.2.2.2.1 _ hC2d
   have HPB : Hid ((W1.alloc (.cells #[.int .i16 (i : Int), .int .i16 (j : Int)] 137)).drew.cell? ⟨W1.heap.size, 0, none⟩ = some (.int .i16 (i : Int)) ∧ (W1.alloc (.cells #[.int .i16 (i : Int), .int .i16 (j : Int)] 137)).drew.cell? ⟨W1.heap.size, 1, none⟩ = some (.int .i16 (j : Int)) ∧ W1.heap.size ≠ bm ∧ Only [bm] w (W1.alloc (.cells #[.int .i16 (i : Int), .int .i16 (j : Int)] 137)).drew) := by
    refine ⟨p0, p1, ?_, HW2.out.2.trans (Only.of_below (B := [bm]) hd) (by simp)⟩
    obtain ⟨m, K, hm1, _⟩ := HW1.out.1.mp
    have := hm1.lt
    omega
   clear hC2 hC2d hbx hd
   go_wp2
   clear hlk
   go_region_held3 (fun X => X.cell? ⟨bp, 0, none⟩ = some (.slice (some ⟨b', o', none⟩) L.length c) ∧ X.cell? ⟨bc, 0, none⟩ = some (cmpF bc bp bf)) (first | exact K1 | exact K2) (first
    | (go_at_call 87; refine hcall.mono ?_; rintro e W3 ⟨rfl, hC3, hO3⟩; have K2 : W3.cell? ⟨bp, 0, none⟩ = some (.slice (some ⟨b', o', none⟩) L.length c) ∧ W3.cell? ⟨bc, 0, none⟩ = some (cmpF bc bp bf) := ⟨hC3.cp, hC3.cc⟩; have HD : Hid (Cm w0 g L bc bp bf bm (.slice (some ⟨b', o', none⟩) L.length c) W3 ∧ Only [bm] (W1.alloc (.cells #[.int .i16 (i : Int), .int .i16 (j : Int)] 137)).drew W3) := ⟨hC3, hO3⟩; clear hC3 hO3))
   have cf3 := HD.out.1.cf
   have p03 : W3.cell? ⟨W1.heap.size, 0, none⟩ = some (.int .i16 (i : Int)) := cell_only HD.out.2 (by simp) (by simp; exact HPB.out.2.2.1) HPB.out.1
   have p13 : W3.cell? ⟨W1.heap.size, 1, none⟩ = some (.int .i16 (j : Int)) := cell_only HD.out.2 (by simp) (by simp; exact HPB.out.2.2.1) HPB.out.2.1
   obtain ⟨W4, hrun, hC4, hO4⟩ := HD.out.1.put HH.out.1.len hi hj
   have HE : Hid (Cm w0 g L bc bp bf bm (.slice (some ⟨b', o', none⟩) L.length c) W4 ∧ Only [bm] W3 W4) := ⟨hC4, hO4⟩
   clear hC4 hO4 K1 hcall p0 p1 cf
   generalize hz : pcmp g L[i] L[j] = z at hrun ⊢
   go_wp2_with (first | (refine wpList_mapUpdate_run rfl 131 _ _ _ rfl (.map (some bm)) (pairv i j) (.int .i64 z) rfl rfl rfl hrun ?_))
   go_ret
   exact ⟨ret_i64 hz.symm, HE.out.1, (HPB.out.2.2.2.trans HD.out.2 (by simp)).trans HE.out.2 (by simp)⟩
end
end Go.Proofs.YtglphfhlpobgcaaGreat
