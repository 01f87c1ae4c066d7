/-
  lits.terms: the sides of a clause, one by one.
-/
import Derived.Test.YtgnjgpplelakkaaMC
import Derived.Test.YtgnjgpplelakkaaLG
namespace Go.Proofs.Ytgnjgpplelakkaa
open Go.RowKit Go.Shelf

attribute [local go_sem] Oper.semAt_some

theorem own_newT {J : List Nat → List T → World → Prop} (hJ : Abide J) {E : List Nat} {pre : List T} {W : World} (hj : J E pre W) (o : Obj) : J (W.heap.size :: E) pre (W.alloc o) :=
  hJ _ _ _ _ _ _ hj (World.grownBy_alloc W _ none) (fun _ e => by cases e) (fun r hr => by rcases List.mem_cons.1 hr with rfl | h; exact .inr ⟨Nat.le_refl _, by simp⟩; exact .inl h)

theorem sides_succ (l : List Lt) (k : Nat) (h : k < l.length) : sidesOf (l.take (k + 1)) = sidesOf (l.take k) ++ [l[k].l] ++ [l[k].r] := by
  unfold sidesOf
  rw [List.take_succ_eq_append_getElem h, List.flatMap_append]
  simp

theorem sides_split (l : List Lt) (k : Nat) (h : k < l.length) : sidesOf l = sidesOf (l.take k) ++ l[k].l :: l[k].r :: sidesOf (l.drop (k + 1)) := by
  have h3 : l = l.take k ++ l[k] :: l.drop (k + 1) := by rw [List.getElem_cons_drop, List.take_append_drop]
  conv => lhs; rw [h3]
  unfold sidesOf
  rw [List.flatMap_append, List.flatMap_cons]
  simp

theorem lit_kept {W W' : World} {g : Nat} {x : Lt} {a b : Value} (h : LitAt W g 0 x a b) (hk : W'.heap[g]? = W.heap[g]?) : W'.cell? ⟨g, 4, none⟩ = some (.int .i64 x.r.v) ∧ W'.cell? ⟨g, 5, none⟩ = some (.string x.r.fn) ∧ W'.cell? ⟨g, 6, none⟩ = some b := by
  have cb : ∀ o, W'.cell? ⟨g, o, none⟩ = W.cell? ⟨g, o, none⟩ := fun o => by simp [World.cell?, hk]
  exact ⟨(cb 4).trans h.c4, (cb 5).trans h.c5, (cb 6).trans h.c6⟩

set_option maxRecDepth 100000 in
set_option maxHeartbeats 4000000 in
theorem terms1_any (w0 : World) (Bc : Nat) (l : List Lt) (v : Value) (W : World) (hb : Below w0.heap.size w0 W) (hbc : W.cell? ⟨Bc, 0, none⟩ = some v) (hc : ClauseAt w0 v l) :
    IterT 69 #[.pointer (some ⟨Bc, 0, none⟩)] w0 (sidesOf l) W := by
  intro m ly J Jx hJ hY hj
  obtain ⟨a, c, rfl⟩ := hc.slice
  have hlen := hc.len
  have HC : Hid (ClauseAt w0 (.slice a l.length c) l) := hc
  have HY : Hid (YieldsT ly w0 (sidesOf l) J Jx) := hY
  have HJ0 : Hid (J [] [] W ∧ Below w0.heap.size w0 W) := ⟨hj, hb⟩
  clear hc hY hj hb
  refine callsIn_of_wp Try.func69 rfl trivial ?_ rfl
  simp only [Try.ntmps69, List.size_toArray, List.length_cons, List.length_nil, Nat.reduceAdd, Nat.reduceSub, Array.replicate_succ, Array.replicate_zero, List.push_toArray, List.append_toArray, List.nil_append, List.cons_append]
  gi_wp2
  gi_loopw [7] (fun i wr => ∃ (k : Nat) (E' : List Nat), k ≤ l.length ∧ i = .int .i64 k ∧ Hid (J E' (sidesOf (l.take k)) wr ∧ Below w0.heap.size w0 wr)) (fun i _ => l.length - (intOf i).toNat)
  case atStart => exact ⟨0, [], Nat.zero_le _, rfl, HJ0.out⟩
  case round =>
    obtain ⟨k, E', hk, rfl, hj3, hb3⟩ := hrel
    by_cases hlt : k < l.length
    · obtain ⟨bb, o, sl, sr, e1, hX0⟩ := HC.out.nth hlt
      cases e1
      have hX := hX0.keep hb3
      have hL1 := lbox_at wr l[k] sl sr hX.al hX.ar
      have hj4 := own_newT hJ hj3 (lbox l[k] sl sr)
      have hb4 : Below w0.heap.size w0 (wr.alloc (lbox l[k] sl sr)) := hb3.trans ((below_box wr _).mono hb3.size)
      have hsp := sides_split l k hlt
      have hyL := HY.out _ _ l[k].l sl _ hj4 hb4 hX0.al ⟨l[k].r :: sidesOf (l.drop (k + 1)), hsp.symm⟩ (m - 1)
      have HS : Hid (sidesOf (l.take (k + 1)) = sidesOf (l.take k) ++ [l[k].l] ++ [l[k].r]) := sides_succ l k hlt
      have HSP : Hid (sidesOf l = sidesOf (l.take k) ++ l[k].l :: l[k].r :: sidesOf (l.drop (k + 1))) := hsp
      have HAR : Hid (ArgsAt w0 sr l[k].r.args) := hX0.ar
      have HL1 : Hid (LitAt (wr.alloc (lbox l[k] sl sr)) wr.heap.size 0 l[k] sl sr) := hL1
      have HB4 : Hid (Below w0.heap.size w0 (wr.alloc (lbox l[k] sl sr))) := hb4
      obtain ⟨x, hx⟩ : ∃ x, l[k] = x := ⟨_, rfl⟩
      simp only [hx] at hX hL1 hyL HS HSP HAR HL1 HB4
      obtain ⟨c0, c1, c2, c3, c4, c5, c6⟩ : wr.cell? ⟨bb, o + k * 7, none⟩ = some (.bool x.neg) ∧ wr.cell? ⟨bb, o + k * 7 + 1, none⟩ = some (.int .i64 x.l.v) ∧ wr.cell? ⟨bb, o + k * 7 + 2, none⟩ = some (.string x.l.fn) ∧ wr.cell? ⟨bb, o + k * 7 + 3, none⟩ = some sl ∧ wr.cell? ⟨bb, o + k * 7 + 4, none⟩ = some (.int .i64 x.r.v) ∧ wr.cell? ⟨bb, o + k * 7 + 5, none⟩ = some (.string x.r.fn) ∧ wr.cell? ⟨bb, o + k * 7 + 6, none⟩ = some sr := ⟨hX.c0, hX.c1, hX.c2, hX.c3, hX.c4, hX.c5, hX.c6⟩
      obtain ⟨k0, k1, k2, k3, k4, k5, k6⟩ := hL1.zero
      obtain ⟨la, lc, rfl, _⟩ := hX.al.slice
      obtain ⟨ra, rc, rfl, _⟩ := hX.ar.slice
      have i0' : (k : Int) < (l.length : Int) := by omega
      have i1' : (0 : Int) ≤ (k : Int) := by omega
      obtain ⟨fn, tmps, assign, body, hyr, hR⟩ := hyL
      clear hX hX0 hL1 hj3 hb3 hj4 hb4 hsp hx
      gi_wp2_with fail
      refine ⟨fun h => (by cases h), ?_⟩
      refine hR.mono ?_
      clear hR
      rintro e W2 (⟨rfl, hj2, hk2⟩ | ⟨rfl, hx⟩)
      · obtain ⟨m4, m5, m6⟩ := lit_kept HL1.out (hk2.mine wr.heap.size (by simp))
        have hb2 := HB4.out.trans hk2.below
        have hyR := HY.out _ _ x.r (.slice ra x.r.args.length rc) _ hj2 hb2 HAR.out ⟨sidesOf (l.drop (k + 1)), by rw [HSP.out]; simp⟩ (m - 1)
        have HB2 : Hid (Below w0.heap.size w0 W2) := hb2
        obtain ⟨fn2, tmps2, assign2, body2, hyr2, hR2⟩ := hyR
        clear hyr hj2 hk2 hb2
        gi_wp2_with fail
        refine ⟨fun h => (by cases h), ?_⟩
        refine hR2.mono ?_
        clear hR2
        rintro e W3 (⟨rfl, hj3, hk3⟩ | ⟨rfl, hx⟩)
        · have HN : Hid (J (wr.heap.size :: E') (sidesOf (l.take (k + 1))) W3 ∧ Below w0.heap.size w0 W3) := ⟨by rw [HS.out]; exact hj3, HB2.out.trans hk3.below⟩
          clear hj3 hk3 hyr2
          gi_wp2
          exact ⟨⟨k + 1, _, by omega, by go_num, HN.out⟩, by simp [intOf]; omega⟩
        · gi_wp2
          refine bodyPost_ret (results_none rfl _ _ _) rfl ?_
          exact ⟨⟨_, rfl⟩, .inr ⟨_, _, hx⟩⟩
      · gi_wp2
        refine ⟨fun f h => (by cases h), ?_⟩
        gi_wp2
        refine bodyPost_ret (results_none rfl _ _ _) rfl ?_
        exact ⟨⟨_, rfl⟩, .inr ⟨_, _, hx⟩⟩
    · have hke : k = l.length := by omega
      subst hke
      rw [List.take_length] at hj3
      have HF : Hid (J E' (sidesOf l) wr) := hj3
      clear hj3 hb3
      gi_wp2
      refine bodyPost_end (results_none rfl _ _ _) rfl ?_
      exact ⟨⟨_, rfl⟩, .inl ⟨_, HF.out⟩⟩

set_option maxHeartbeats 1000000 in
theorem terms_any (a : Option Addr) (n c : Nat) (w : World) :
    Calls Try.prog 36 #[.slice a n c] w fun e w' => e = .returned (.func (.func 69) #[] #[.pointer (some ⟨w.heap.size, 0, none⟩)]) ∧ w' = w.alloc (.cells #[.slice a n c] 23) := by
  go_enter Try.func36, Try.ntmps36
  go_wp2
  go_ret
  exact ⟨rfl, rfl⟩

end Go.Proofs.Ytgnjgpplelakkaa
