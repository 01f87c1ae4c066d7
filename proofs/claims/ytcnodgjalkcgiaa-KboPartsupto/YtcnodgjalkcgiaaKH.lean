/-
  The scales in memory; count, heaviness.
-/
import Derived.Test.YtcnodgjalkcgiaaKG
namespace Go.Proofs.Ytcnodgjalkcgiaa
open Go.RowKit Go.Maps

/-- What the map of counts holds. -/
def Counts (W : World) (b : Nat) (c : Int → Int) (L : Nat) : Prop :=
  ∃ m n, MapIs W 3 b m n ∧ n ≤ L ∧ ∀ x, Fit64 x → (m (.int .i64 x) = none ∧ c x = 0) ∨ m (.int .i64 x) = some (.int .i64 (c x))

theorem Counts.same {W W' : World} {b : Nat} {c : Int → Int} {L : Nat} (h : Counts W b c L) (hb : W'.heap[b]? = W.heap[b]?) : Counts W' b c L := by
  obtain ⟨m, n, h1, h2, h3⟩ := h
  exact ⟨m, n, h1.same hb, h2, h3⟩
theorem Counts.look {W : World} {b : Nat} {c : Int → Int} {L : Nat} (h : Counts W b c L) {x : Int} (hx : Fit64 x) : (Instr.lookup 68 (.map (some b)) (.int .i64 x) false).run Try.prog W = .ok (.int .i64 (c x)) W := by
  obtain ⟨m, n, h1, _, h3⟩ := h
  have hl := h1.look keyed3 Try.underlying68 (zero3 W) (key3 hx)
  rcases h3 x hx with ⟨e, ec⟩ | e
  · rw [ec]; exact (hl.2 e).2
  · exact (hl.1 _ e).2
theorem Counts.put {W : World} {b : Nat} {c : Int → Int} {L : Nat} (h : Counts W b c L) {x : Int} (hx : Fit64 x) (hL : L ≤ 1000000) (d : Int) :
    ∃ W', (Instr.mapUpdate 68 (.map (some b)) (.int .i64 x) (.int .i64 (c x + d))).run Try.prog W = .ok () W' ∧ Counts W' b (bump c x d) (L + 1) ∧ Only [b] W W' := by
  obtain ⟨m, n, h1, h2, h3⟩ := h
  obtain ⟨W', r1, r2, r3⟩ := h1.put keyed3 Try.underlying68 (by unfold maxLen; omega) (key3 hx) (.int .i64 (c x + d))
  refine ⟨W', r1, ⟨_, _, r2, ?_, fun y hy => ?_⟩, Only.of_grown r3 (fun r e => by cases e; simp)⟩
  · split <;> omega
  · by_cases e : y = x
    · subst e
      right
      simp [upd, bump]
    · have e' : ¬ Value.int IntKind.i64 y = Value.int IntKind.i64 x := fun h => e (by injection h)
      simp only [upd, bump, e, e', if_false]
      exact h3 y hy

/-- The scales, laid behind the world W0, with g's names and weights, L parts laid on. -/
structure Sc (W0 : World) (g : Sg) (p bp bc : Nat) (vn vw : Value) (L : Nat) (wt : Int) (c : Int → Int) (W : World) : Prop where
  bel : Below W0.heap.size W0 W
  lo : W0.heap.size ≤ p ∧ W0.heap.size ≤ bp ∧ W0.heap.size ≤ bc
  ne : p ≠ bp ∧ p ≠ bc ∧ bp ≠ bc
  box : SBox W p vn vw bp wt bc (mo c) (fe c)
  pm : ∃ k, MapIs W 9 bp (pmL (g.ns.take (min g.ns.length g.ws.length))) k
  cm : Counts W bc c L
  wr : -(1000 * (L : Int)) ≤ wt ∧ wt ≤ 1000 * (L : Int)
  cr : ∀ x, -(L : Int) ≤ c x ∧ c x ≤ (L : Int)
  sup : ∀ x, x < 0 ∨ 1000000 ≤ x → c x = 0
  sg : SgAt W0 g vn vw

section
variable {W0 : World} {g : Sg} {p bp bc : Nat} {vn vw : Value} {L : Nat} {wt : Int} {c : Int → Int} {W W' : World}

theorem Sc.lt (h : Sc W0 g p bp bc vn vw L wt c W) : p < W.heap.size := (Array.getElem?_eq_some_iff.1 h.box).1
/-- What turns neither of the scales' blocks keeps them. -/
theorem Sc.keep (h : Sc W0 g p bp bc vn vw L wt c W) (hb : Below W.heap.size W W') : Sc W0 g p bp bc vn vw L wt c W' := by
  obtain ⟨k, hk⟩ := h.pm
  refine ⟨h.bel.trans (hb.mono h.bel.size), h.lo, h.ne, (hb.block p h.lt).trans h.box, ⟨k, hk.same (hb.block bp hk.lt)⟩, h.cm.same (hb.block bc ?_), h.wr, h.cr, h.sup, h.sg⟩
  obtain ⟨m, n, hm, _⟩ := h.cm
  exact hm.lt
end

set_option maxRecDepth 100000 in
set_option maxHeartbeats 1000000 in
theorem count_any (W0 : World) (g : Sg) (p bp bc : Nat) (vn vw : Value) (L : Nat) (wt : Int) (c : Int → Int) (x d : Int) (W : World) (hS : Sc W0 g p bp bc vn vw L wt c W) (h0 : 0 ≤ x) (h1 : x < 1000000) (hd : d = 1 ∨ d = -1) (hL : L ≤ 1000000) :
    Calls Try.prog 55 #[.pointer (some ⟨p, 0, none⟩), .int .i64 x, .int .i64 d] W fun e W' => (∃ v, e = .returned v) ∧ Sc W0 g p bp bc vn vw (L + 1) wt (bump c x d) W' ∧ Only [p, bc] W W' := by
  have hx : Fit64 x := ⟨by omega, by omega⟩
  have hm := mo_rng c
  have hf := fe_rng c
  have hcx := hS.cr x
  have n1 := note_any p vn vw bp wt bc (mo c) (fe c) (c x) (-1) W hS.box (by omega) (by omega) (by omega)
  obtain ⟨⟨c0, c1, c2, c3, c4, c5, c6⟩, _⟩ := sbox_facts hS.box
  have hl1 := hS.cm.look hx
  have hwr : wrap64 (c x + d) = c x + d := wrap_small (by omega) (by omega)
  have HS : Hid (Sc W0 g p bp bc vn vw L wt c W) := hS
  obtain ⟨q, hq⟩ : ∃ q, c x = q := ⟨_, rfl⟩
  have HQ : Hid (c x = q) := hq
  rw [hq] at n1 hl1 hwr hcx
  clear hS hq
  go_enter Try.func55, Try.ntmps55
  go_wp2_with fail
  refine n1.mono ?_
  rintro e W2 ⟨⟨v2, rfl⟩, hb2, ho2⟩
  obtain ⟨⟨_, _, _, _, d4, _, _⟩, _⟩ := sbox_facts hb2
  have hcm2 : Counts W2 bc c L := by
    obtain ⟨m, n, hm, _⟩ := HS.out.cm
    exact HS.out.cm.same (ho2.block bc hm.lt (by simp; exact fun e => HS.out.ne.2.1 e.symm))
  have hl2 := hcm2.look hx
  obtain ⟨W3, hrun, hcm3, ho3⟩ := hcm2.put hx hL d
  rw [HQ.out] at hl2 hrun
  have hb3 : SBox W3 p vn vw bp wt bc (upm q (mo c) (-1)) (upf q (fe c) (-1)) := (ho3.block p ((Array.getElem?_eq_some_iff.1 hb2).1) (by simp; exact HS.out.ne.2.1)).trans hb2
  obtain ⟨⟨_, _, _, _, g4, _, _⟩, _⟩ := sbox_facts hb3
  have hl3 := hcm3.look hx
  have hbx : bump c x d x = q + d := by simp [bump, HQ.out]
  rw [hbx] at hl3
  have hu1 : -100000000 ≤ upm q (mo c) (-1) ∧ upm q (mo c) (-1) ≤ 100000000 := by unfold upm; split <;> omega
  have hu2 : -100000000 ≤ upf q (fe c) (-1) ∧ upf q (fe c) (-1) ≤ 100000000 := by unfold upf; split <;> omega
  have n3 := note_any p vn vw bp wt bc _ _ (q + d) 1 W3 hb3 hu1 hu2 (by omega)
  have H3 : Hid (Counts W3 bc (bump c x d) (L + 1) ∧ Only [p, bc] W W3) := ⟨hcm3, (⟨ho2.os, ho2.tape, ho2.output, ho2.size, fun k hk hn => ho2.block k hk (by simp at hn ⊢; exact hn.1)⟩ : Only [p, bc] W W2).trans ho3 (by simp)⟩
  clear n1 hl1 hcm2 hcm3 ho2 ho3 hb2 hb3 c0 c1 c2 c3 c4 c5 c6 hbx
  go_wp2_with (first | (refine wpList_mapUpdate_run rfl 68 _ _ _ rfl (.map (some bc)) (.int .i64 x) (.int .i64 (q + d)) rfl rfl (by simp [go_sem, *]) hrun ?_))
  refine n3.mono ?_
  rintro e W4 ⟨⟨v4, rfl⟩, hb4, ho4⟩
  have HF : Hid (SBox W4 p vn vw bp wt bc (mo (bump c x d)) (fe (bump c x d)) ∧ Only [p] W3 W4) := by
    refine ⟨?_, ho4⟩
    have e1 := mo_bump c x d h0 h1
    have e2 := fe_bump c x d h0 h1
    rw [HQ.out] at e1 e2
    have k1 : upm (q + d) (upm q (mo c) (-1)) 1 = mo (bump c x d) := by
      by_cases a1 : 0 < q <;> by_cases a2 : 0 < q + d <;> simp only [upm, a1, a2, if_true, if_false] at e1 ⊢ <;> omega
    have k2 : upf (q + d) (upf q (fe c) (-1)) 1 = fe (bump c x d) := by
      by_cases a1 : q < 0 <;> by_cases a2 : q + d < 0 <;> simp only [upf, a1, a2, if_true, if_false] at e2 ⊢ <;> omega
    rwa [k1, k2] at hb4
  clear n3 hb4 ho4 hu1 hu2 hl2 hl3 hrun
  go_wp2
  refine bodyPost_end (results_none rfl _ _ _) rfl ?_
  have hO : Only [p, bc] W W4 := H3.out.2.trans HF.out.2 (by simp)
  obtain ⟨mm3, nn3, hmm3, _⟩ := H3.out.1
  have hbc4 : W4.heap[bc]? = W3.heap[bc]? := HF.out.2.block bc hmm3.lt (by simp; exact fun e => HS.out.ne.2.1 e.symm)
  obtain ⟨kp, hkp⟩ := HS.out.pm
  refine ⟨⟨_, rfl⟩, ⟨HS.out.bel.trans (hO.below HS.out.bel.size (by simp; exact ⟨HS.out.lo.1, HS.out.lo.2.2⟩)), HS.out.lo, HS.out.ne, HF.out.1, ⟨kp, hkp.same (hO.block bp hkp.lt (by simp; exact ⟨fun e => HS.out.ne.1 e.symm, HS.out.ne.2.2⟩))⟩, H3.out.1.same hbc4, ?_, fun y => ?_, fun y hy => ?_, HS.out.sg⟩, hO⟩
  · have := HS.out.wr
    omega
  · have h5 := HS.out.cr y
    unfold bump
    split <;> omega
  · have h5 := HS.out.sup y hy
    unfold bump
    rw [if_neg (by omega)]
    exact h5

end Go.Proofs.Ytcnodgjalkcgiaa
