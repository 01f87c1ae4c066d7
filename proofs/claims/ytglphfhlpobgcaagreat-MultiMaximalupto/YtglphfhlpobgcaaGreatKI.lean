import Derived.Test.YtglphfhlpobgcaaGreatKE
import Derived.Test.YtglphfhlpobgcaaGreatWA
import Derived.Test.YtglphfhlpobgcaaGreatWZ

namespace Go.Proofs.YtglphfhlpobgcaaGreat
open Go.RowKit Go.Maps
def NV : Nat := 1000000
theorem NV_eq : NV = 1000000 := rfl
def moN (n : Nat) (c : Int → Int) : Int := ((List.range n).countP (fun i : Nat => decide (0 < c (i : Int))) : Nat)
def feN (n : Nat) (c : Int → Int) : Int := ((List.range n).countP (fun i : Nat => decide (c (i : Int) < 0)) : Nat)
def mo (c : Int → Int) : Int := moN NV c
def fe (c : Int → Int) : Int := feN NV c
def bump (c : Int → Int) (x d : Int) : Int → Int := fun y => if y = x then c y + d else c y
theorem countP_turn (f h : Nat → Bool) (i : Nat) (hfh : ∀ j, j ≠ i → f j = h j) : ∀ n, i < n → (List.range n).countP h + (if f i then 1 else 0) = (List.range n).countP f + (if h i then 1 else 0) := by
  have low : ∀ n, n ≤ i → (List.range n).countP h = (List.range n).countP f := by
    intro n hn
    refine List.countP_congr fun j hj => ?_
    rw [hfh j (by have := List.mem_range.1 hj; omega)]
  intro n
  induction n with
  | zero => intro h0; omega
  | succ n ih =>
    intro hn
    rw [List.range_succ, List.countP_append, List.countP_append, List.countP_singleton, List.countP_singleton]
    by_cases e : n = i
    · subst e
      rw [low n (Nat.le_refl _)]
      omega
    · have := ih (by omega)
      rw [hfh n e]
      omega
theorem moN_bump (n : Nat) (c : Int → Int) (i : Nat) (d : Int) (h1 : i < n) : moN n (bump c i d) + (if 0 < c i then 1 else 0) = moN n c + (if 0 < c i + d then 1 else 0) := by
  have := countP_turn (fun j => decide (0 < c (j : Int))) (fun j => decide (0 < bump c (i : Int) d (j : Int))) i (fun j hj => by
    have : ¬ ((j : Int) = (i : Int)) := by omega
    simp only [bump, this, if_false]) n h1
  unfold moN
  simp only [bump, if_true, decide_eq_true_eq] at this ⊢
  split at this <;> split at this <;> simp_all <;> omega
theorem feN_bump (n : Nat) (c : Int → Int) (i : Nat) (d : Int) (h1 : i < n) : feN n (bump c i d) + (if c i < 0 then 1 else 0) = feN n c + (if c i + d < 0 then 1 else 0) := by
  have := countP_turn (fun j => decide (c (j : Int) < 0)) (fun j => decide (bump c (i : Int) d (j : Int) < 0)) i (fun j hj => by
    have : ¬ ((j : Int) = (i : Int)) := by omega
    simp only [bump, this, if_false]) n h1
  unfold feN
  simp only [bump, if_true, decide_eq_true_eq] at this ⊢
  split at this <;> split at this <;> simp_all <;> omega
theorem mo_bump (c : Int → Int) (x d : Int) (h0 : 0 ≤ x) (h1 : x < 1000000) : mo (bump c x d) + (if 0 < c x then 1 else 0) = mo c + (if 0 < c x + d then 1 else 0) := by
  obtain ⟨i, rfl⟩ := Int.eq_ofNat_of_zero_le h0
  exact moN_bump NV c i d (by have := NV_eq; omega)
theorem fe_bump (c : Int → Int) (x d : Int) (h0 : 0 ≤ x) (h1 : x < 1000000) : fe (bump c x d) + (if c x < 0 then 1 else 0) = fe c + (if c x + d < 0 then 1 else 0) := by
  obtain ⟨i, rfl⟩ := Int.eq_ofNat_of_zero_le h0
  exact feN_bump NV c i d (by have := NV_eq; omega)
theorem moN_rng (n : Nat) (c : Int → Int) : 0 ≤ moN n c ∧ moN n c ≤ n := by
  unfold moN
  have := List.countP_le_length (p := fun i : Nat => decide (0 < c (i : Int))) (l := List.range n)
  rw [List.length_range] at this
  omega
theorem feN_rng (n : Nat) (c : Int → Int) : 0 ≤ feN n c ∧ feN n c ≤ n := by
  unfold feN
  have := List.countP_le_length (p := fun i : Nat => decide (c (i : Int) < 0)) (l := List.range n)
  rw [List.length_range] at this
  omega
theorem mo_rng (c : Int → Int) : 0 ≤ mo c ∧ mo c ≤ 1000000 := by
  have h1 := moN_rng NV c
  have := NV_eq
  unfold mo
  omega
theorem fe_rng (c : Int → Int) : 0 ≤ fe c ∧ fe c ≤ 1000000 := by
  have h1 := feN_rng NV c
  have := NV_eq
  unfold fe
  omega
theorem moN_pos (n : Nat) {c : Int → Int} (hs : ∀ x, x < 0 ∨ (n : Int) ≤ x → c x = 0) : 0 < moN n c ↔ ∃ x, 0 < c x := by
  unfold moN
  rw [Int.natCast_pos, List.countP_pos_iff]
  constructor
  · rintro ⟨i, _, h⟩
    exact ⟨_, of_decide_eq_true h⟩
  · rintro ⟨x, h⟩
    have hx : ¬ (x < 0 ∨ (n : Int) ≤ x) := fun k => by have := hs x k; omega
    obtain ⟨i, rfl⟩ := Int.eq_ofNat_of_zero_le (show 0 ≤ x by omega)
    exact ⟨i, List.mem_range.2 (by omega), decide_eq_true h⟩
theorem feN_pos (n : Nat) {c : Int → Int} (hs : ∀ x, x < 0 ∨ (n : Int) ≤ x → c x = 0) : 0 < feN n c ↔ ∃ x, c x < 0 := by
  unfold feN
  rw [Int.natCast_pos, List.countP_pos_iff]
  constructor
  · rintro ⟨i, _, h⟩
    exact ⟨_, of_decide_eq_true h⟩
  · rintro ⟨x, h⟩
    have hx : ¬ (x < 0 ∨ (n : Int) ≤ x) := fun k => by have := hs x k; omega
    obtain ⟨i, rfl⟩ := Int.eq_ofNat_of_zero_le (show 0 ≤ x by omega)
    exact ⟨i, List.mem_range.2 (by omega), decide_eq_true h⟩
theorem mo_pos {c : Int → Int} (hs : ∀ x, x < 0 ∨ 1000000 ≤ x → c x = 0) : 0 < mo c ↔ ∃ x, 0 < c x := moN_pos NV (fun x h => hs x (by have := NV_eq; omega))
theorem fe_pos {c : Int → Int} (hs : ∀ x, x < 0 ∨ 1000000 ≤ x → c x = 0) : 0 < fe c ↔ ∃ x, c x < 0 := feN_pos NV (fun x h => hs x (by have := NV_eq; omega))
abbrev SBox (W : World) (p : Nat) (vn vw : Value) (bp : Nat) (wt : Int) (bc : Nat) (m f : Int) : Prop :=
  W.heap[p]? = some (.cells #[vn, vw, .map (some bp), .int .i64 wt, .map (some bc), .int .i64 m, .int .i64 f] 140 (0, 0))
theorem sbox_facts {W : World} {p : Nat} {vn vw : Value} {bp : Nat} {wt : Int} {bc : Nat} {m f : Int} (h : SBox W p vn vw bp wt bc m f) :
    (W.cell? ⟨p, 0, none⟩ = some vn ∧ W.cell? ⟨p, 1, none⟩ = some vw ∧ W.cell? ⟨p, 2, none⟩ = some (.map (some bp)) ∧ W.cell? ⟨p, 3, none⟩ = some (.int .i64 wt) ∧ W.cell? ⟨p, 4, none⟩ = some (.map (some bc)) ∧ W.cell? ⟨p, 5, none⟩ = some (.int .i64 m) ∧ W.cell? ⟨p, 6, none⟩ = some (.int .i64 f)) ∧
    (W.frozen? ⟨p, 3, none⟩ = false ∧ W.frozen? ⟨p, 5, none⟩ = false ∧ W.frozen? ⟨p, 6, none⟩ = false) := by
  refine ⟨⟨?_, ?_, ?_, ?_, ?_, ?_, ?_⟩, ⟨?_, ?_, ?_⟩⟩ <;> simp [World.cell?, World.frozen?, h]
def upm (k m d : Int) : Int := if 0 < k then m + d else m
def upf (k f d : Int) : Int := if k < 0 then f + d else f
set_option maxHeartbeats 1000000 in
theorem note_any (p : Nat) (vn vw : Value) (bp : Nat) (wt : Int) (bc : Nat) (m f k d : Int) (W : World) (hbox : SBox W p vn vw bp wt bc m f) (hm : -100000000 ≤ m ∧ m ≤ 100000000) (hf : -100000000 ≤ f ∧ f ≤ 100000000) (hd : -1 ≤ d ∧ d ≤ 1) :
    Calls Tryz.prog 151 #[.pointer (some ⟨p, 0, none⟩), .int .i64 k, .int .i64 d] W fun e W' => (∃ v, e = .returned v) ∧ SBox W' p vn vw bp wt bc (upm k m d) (upf k f d) ∧ Only [p] W W' := by
  obtain ⟨⟨c0, c1, c2, c3, c4, c5, c6⟩, f3, f5, f6⟩ := sbox_facts hbox
  have hw1 : wrap64 (m + d) = m + d := wrap_small (by omega) (by omega)
  have hw2 : wrap64 (f + d) = f + d := wrap_small (by omega) (by omega)
  have HX : Hid (SBox W p vn vw bp wt bc m f) := hbox
  clear hbox
  by_cases h1 : 0 < k
  · have e1 : decide (0 < k) = true := decide_eq_true h1
    have HE : Hid (upm k m d = m + d ∧ upf k f d = f) := ⟨if_pos h1, if_neg (by omega)⟩
    go_enter Tryz.func151, Tryz.ntmps151
    go_wp2
    refine bodyPost_end (results_none rfl _ _ _) rfl ?_
    refine ⟨⟨_, rfl⟩, ?_, only_setCell _ _ _ _⟩
    rw [HE.out.1, HE.out.2]
    have := heap_setCell_same W p 5 _ 140 (.int .i64 (m + d)) HX.out
    simpa using this
  have e1 : decide (0 < k) = false := decide_eq_false h1
  by_cases h2 : k < 0
  · have e2 : decide (k < 0) = true := decide_eq_true h2
    have HE : Hid (upm k m d = m ∧ upf k f d = f + d) := ⟨if_neg h1, if_pos h2⟩
    go_enter Tryz.func151, Tryz.ntmps151
    go_wp2
    refine bodyPost_end (results_none rfl _ _ _) rfl ?_
    refine ⟨⟨_, rfl⟩, ?_, only_setCell _ _ _ _⟩
    rw [HE.out.1, HE.out.2]
    have := heap_setCell_same W p 6 _ 140 (.int .i64 (f + d)) HX.out
    simpa using this
  have e2 : decide (k < 0) = false := decide_eq_false h2
  have HE : Hid (upm k m d = m ∧ upf k f d = f) := ⟨if_neg h1, if_neg h2⟩
  go_enter Tryz.func151, Tryz.ntmps151
  go_wp2
  refine bodyPost_end (results_none rfl _ _ _) rfl ?_
  refine ⟨⟨_, rfl⟩, ?_, Only.refl _ _⟩
  rw [HE.out.1, HE.out.2]
  exact HX.out
end Go.Proofs.YtglphfhlpobgcaaGreat

namespace Go.Proofs.YtglphfhlpobgcaaGreat
open Go.RowKit Go.Maps
def Counts (W : World) (b : Nat) (c : Int → Int) (L : Nat) : Prop :=
  ∃ m n, MapIs W 3 b m n ∧ n ≤ L ∧ ∀ x, Fit64 x → (m (.int .i64 x) = none ∧ c x = 0) ∨ m (.int .i64 x) = some (.int .i64 (c x))
theorem Counts.same {W W' : World} {b : Nat} {c : Int → Int} {L : Nat} (h : Counts W b c L) (hb : W'.heap[b]? = W.heap[b]?) : Counts W' b c L := by
  obtain ⟨m, n, h1, h2, h3⟩ := h
  exact ⟨m, n, h1.same hb, h2, h3⟩
theorem Counts.look {W : World} {b : Nat} {c : Int → Int} {L : Nat} (h : Counts W b c L) {x : Int} (hx : Fit64 x) : (Instr.lookup 74 (.map (some b)) (.int .i64 x) false).run Tryz.prog W = .ok (.int .i64 (c x)) W := by
  obtain ⟨m, n, h1, _, h3⟩ := h
  have hl := h1.look keyed3 Tryz.underlying74 (zero3 W) (key3 hx)
  rcases h3 x hx with ⟨e, ec⟩ | e
  · rw [ec]; exact (hl.2 e).2
  · exact (hl.1 _ e).2
theorem Counts.put {W : World} {b : Nat} {c : Int → Int} {L : Nat} (h : Counts W b c L) {x : Int} (hx : Fit64 x) (hL : L ≤ 1000000) (d : Int) :
    ∃ W', (Instr.mapUpdate 74 (.map (some b)) (.int .i64 x) (.int .i64 (c x + d))).run Tryz.prog W = .ok () W' ∧ Counts W' b (bump c x d) (L + 1) ∧ Only [b] W W' := by
  obtain ⟨m, n, h1, h2, h3⟩ := h
  obtain ⟨W', r1, r2, r3⟩ := h1.put keyed3 Tryz.underlying74 (by unfold maxLen; omega) (key3 hx) (.int .i64 (c x + d))
  refine ⟨W', r1, ⟨_, _, r2, ?_, fun y hy => ?_⟩, Only.of_grown r3 (fun r e => by cases e; simp)⟩
  · split <;> omega
  · by_cases e : y = x
    · subst e
      right
      simp [upd, bump]
    · have e' : ¬ Value.int IntKind.i64 y = Value.int IntKind.i64 x := fun h => e (by injection h)
      simp only [upd, bump, e, e', if_false]
      exact h3 y hy
structure Sc (W0 : World) (g : Sg) (p bp bc : Nat) (vn vw : Value) (L : Nat) (wt : Int) (c : Int → Int) (W : World) : Prop where
  bel : Below W0.heap.size W0 W
  lo : W0.heap.size ≤ p ∧ W0.heap.size ≤ bp ∧ W0.heap.size ≤ bc
  ne : p ≠ bp ∧ p ≠ bc ∧ bp ≠ bc
  box : SBox W p vn vw bp wt bc (mo c) (fe c)
  pm : ∃ k, MapIs W 9 bp (pmL (g.ns.take (min g.ns.length g.ws.length))) k
  cm : Counts W bc c L
  wr : -(1000 * (L : Int)) ≤ wt ∧ wt ≤ 1000 * (L : Int)
  cr : ∀ x, -(L : Int) ≤ c x ∧ c x ≤ (L : Int)
  sup : ∀ x, x < 0 ∨ 1000000 ≤ x → c x = 0
  sg : SgAt W0 g vn vw
section
variable {W0 : World} {g : Sg} {p bp bc : Nat} {vn vw : Value} {L : Nat} {wt : Int} {c : Int → Int} {W W' : World}
theorem Sc.lt (h : Sc W0 g p bp bc vn vw L wt c W) : p < W.heap.size := (Array.getElem?_eq_some_iff.1 h.box).1
theorem Sc.keep (h : Sc W0 g p bp bc vn vw L wt c W) (hb : Below W.heap.size W W') : Sc W0 g p bp bc vn vw L wt c W' := by
  obtain ⟨k, hk⟩ := h.pm
  refine ⟨h.bel.trans (hb.mono h.bel.size), h.lo, h.ne, (hb.block p h.lt).trans h.box, ⟨k, hk.same (hb.block bp hk.lt)⟩, h.cm.same (hb.block bc ?_), h.wr, h.cr, h.sup, h.sg⟩
  obtain ⟨m, n, hm, _⟩ := h.cm
  exact hm.lt
end
set_option maxRecDepth 100000 in
set_option maxHeartbeats 1000000 in
theorem count_any (W0 : World) (g : Sg) (p bp bc : Nat) (vn vw : Value) (L : Nat) (wt : Int) (c : Int → Int) (x d : Int) (W : World) (hS : Sc W0 g p bp bc vn vw L wt c W) (h0 : 0 ≤ x) (h1 : x < 1000000) (hd : d = 1 ∨ d = -1) (hL : L ≤ 1000000) :
    Calls Tryz.prog 132 #[.pointer (some ⟨p, 0, none⟩), .int .i64 x, .int .i64 d] W fun e W' => (∃ v, e = .returned v) ∧ Sc W0 g p bp bc vn vw (L + 1) wt (bump c x d) W' ∧ Only [p, bc] W W' := by
  have hx : Fit64 x := ⟨by omega, by omega⟩
  have hm := mo_rng c
  have hf := fe_rng c
  have hcx := hS.cr x
  have n1 := note_any p vn vw bp wt bc (mo c) (fe c) (c x) (-1) W hS.box (by omega) (by omega) (by omega)
  obtain ⟨⟨c0, c1, c2, c3, c4, c5, c6⟩, _⟩ := sbox_facts hS.box
  have hl1 := hS.cm.look hx
  have hwr : wrap64 (c x + d) = c x + d := wrap_small (by omega) (by omega)
  have HS : Hid (Sc W0 g p bp bc vn vw L wt c W) := hS
  obtain ⟨q, hq⟩ : ∃ q, c x = q := ⟨_, rfl⟩
  have HQ : Hid (c x = q) := hq
  rw [hq] at n1 hl1 hwr hcx
  clear hS hq
  go_enter Tryz.func132, Tryz.ntmps132
  go_wp2_with fail
  refine n1.mono ?_
  rintro e W2 ⟨⟨v2, rfl⟩, hb2, ho2⟩
  obtain ⟨⟨_, _, _, _, d4, _, _⟩, _⟩ := sbox_facts hb2
  have hcm2 : Counts W2 bc c L := by
    obtain ⟨m, n, hm, _⟩ := HS.out.cm
    exact HS.out.cm.same (ho2.block bc hm.lt (by simp; exact fun e => HS.out.ne.2.1 e.symm))
  have hl2 := hcm2.look hx
  obtain ⟨W3, hrun, hcm3, ho3⟩ := hcm2.put hx hL d
  rw [HQ.out] at hl2 hrun
  have hb3 : SBox W3 p vn vw bp wt bc (upm q (mo c) (-1)) (upf q (fe c) (-1)) := (ho3.block p ((Array.getElem?_eq_some_iff.1 hb2).1) (by simp; exact HS.out.ne.2.1)).trans hb2
  obtain ⟨⟨_, _, _, _, g4, _, _⟩, _⟩ := sbox_facts hb3
  have hl3 := hcm3.look hx
  have hbx : bump c x d x = q + d := by simp [bump, HQ.out]
  rw [hbx] at hl3
  have hu1 : -100000000 ≤ upm q (mo c) (-1) ∧ upm q (mo c) (-1) ≤ 100000000 := by unfold upm; split <;> omega
  have hu2 : -100000000 ≤ upf q (fe c) (-1) ∧ upf q (fe c) (-1) ≤ 100000000 := by unfold upf; split <;> omega
  have n3 := note_any p vn vw bp wt bc _ _ (q + d) 1 W3 hb3 hu1 hu2 (by omega)
  have H3 : Hid (Counts W3 bc (bump c x d) (L + 1) ∧ Only [p, bc] W W3) := ⟨hcm3, (⟨ho2.os, ho2.tape, ho2.output, ho2.size, fun k hk hn => ho2.block k hk (by simp at hn ⊢; exact hn.1)⟩ : Only [p, bc] W W2).trans ho3 (by simp)⟩
  clear n1 hl1 hcm2 hcm3 ho2 ho3 hb2 hb3 c0 c1 c2 c3 c4 c5 c6 hbx
  go_wp2_with (first | (refine wpList_mapUpdate_run rfl 74 _ _ _ rfl (.map (some bc)) (.int .i64 x) (.int .i64 (q + d)) rfl rfl (by simp [go_sem, *]) hrun ?_))
  refine n3.mono ?_
  rintro e W4 ⟨⟨v4, rfl⟩, hb4, ho4⟩
  have HF : Hid (SBox W4 p vn vw bp wt bc (mo (bump c x d)) (fe (bump c x d)) ∧ Only [p] W3 W4) := by
    refine ⟨?_, ho4⟩
    have e1 := mo_bump c x d h0 h1
    have e2 := fe_bump c x d h0 h1
    rw [HQ.out] at e1 e2
    have k1 : upm (q + d) (upm q (mo c) (-1)) 1 = mo (bump c x d) := by
      by_cases a1 : 0 < q <;> by_cases a2 : 0 < q + d <;> simp only [upm, a1, a2, if_true, if_false] at e1 ⊢ <;> omega
    have k2 : upf (q + d) (upf q (fe c) (-1)) 1 = fe (bump c x d) := by
      by_cases a1 : q < 0 <;> by_cases a2 : q + d < 0 <;> simp only [upf, a1, a2, if_true, if_false] at e2 ⊢ <;> omega
    rwa [k1, k2] at hb4
  clear n3 hb4 ho4 hu1 hu2 hl2 hl3 hrun
  go_wp2
  refine bodyPost_end (results_none rfl _ _ _) rfl ?_
  have hO : Only [p, bc] W W4 := H3.out.2.trans HF.out.2 (by simp)
  obtain ⟨mm3, nn3, hmm3, _⟩ := H3.out.1
  have hbc4 : W4.heap[bc]? = W3.heap[bc]? := HF.out.2.block bc hmm3.lt (by simp; exact fun e => HS.out.ne.2.1 e.symm)
  obtain ⟨kp, hkp⟩ := HS.out.pm
  refine ⟨⟨_, rfl⟩, ⟨HS.out.bel.trans (hO.below HS.out.bel.size (by simp; exact ⟨HS.out.lo.1, HS.out.lo.2.2⟩)), HS.out.lo, HS.out.ne, HF.out.1, ⟨kp, hkp.same (hO.block bp hkp.lt (by simp; exact ⟨fun e => HS.out.ne.1 e.symm, HS.out.ne.2.2⟩))⟩, H3.out.1.same hbc4, ?_, fun y => ?_, fun y hy => ?_, HS.out.sg⟩, hO⟩
  · have := HS.out.wr
    omega
  · have h5 := HS.out.cr y
    unfold bump
    split <;> omega
  · have h5 := HS.out.sup y hy
    unfold bump
    rw [if_neg (by omega)]
    exact h5
end Go.Proofs.YtglphfhlpobgcaaGreat

namespace Go.Proofs.YtglphfhlpobgcaaGreat
open Go.RowKit Go.Maps
theorem ixL_take (l : List ByteArray) (k : Nat) (x : ByteArray) : ixL (l.take k) x = match ixL l x with
    | some i => if i < k then some i else none
    | none => none := by
  cases h : ixL l x with
  | none =>
    have := ixL_none.1 h
    simp only
    exact ixL_none.2 fun hm => this (List.mem_of_mem_take hm)
  | some i =>
    unfold ixL at h
    obtain ⟨h1, h2, h3⟩ := List.findIdx?_eq_some_iff_getElem.1 h
    simp only
    by_cases hk : i < k
    · rw [if_pos hk]
      unfold ixL
      rw [List.findIdx?_eq_some_iff_getElem]
      refine ⟨by simp; omega, by simpa using h2, fun j hj => ?_⟩
      simpa using h3 j hj
    · rw [if_neg hk]
      refine ixL_none.2 fun hm => ?_
      obtain ⟨j, hj, e⟩ := List.getElem_of_mem hm
      simp at hj
      rw [List.getElem_take] at e
      have := h3 j (by omega)
      simp [e] at this
theorem hv_no {g : Sg} {x : ByteArray} (h : ixL (g.ns.take (min g.ns.length g.ws.length)) x = none) : g.hv x = 1 := by
  rw [ixL_take] at h
  unfold Sg.hv
  show (match ixL g.ns x with | some i => _ | none => _) = _
  cases hi : ixL g.ns x with
  | none => rfl
  | some i =>
    rw [hi] at h
    simp only at h ⊢
    split at h
    · cases h
    · have hlt : i < g.ns.length := by
        unfold ixL at hi
        exact (List.findIdx?_eq_some_iff_getElem.1 hi).1
      rw [List.getElem?_eq_none (by omega)]
theorem hv_yes {g : Sg} {x : ByteArray} {j : Nat} (h : ixL (g.ns.take (min g.ns.length g.ws.length)) x = some j) : ∃ hj : j < g.ws.length, g.hv x = if badW g.ws[j] then 1 else g.ws[j] := by
  rw [ixL_take] at h
  cases hi : ixL g.ns x with
  | none => rw [hi] at h; cases h
  | some i =>
    rw [hi] at h
    simp only at h
    split at h
    · rename_i hk
      cases h
      have hj : j < g.ws.length := by omega
      refine ⟨hj, ?_⟩
      unfold Sg.hv
      show (match ixL g.ns x with | some i => _ | none => _) = _
      rw [hi]
      simp only [List.getElem?_eq_getElem hj]
      unfold badW
      by_cases h1 : 1 ≤ g.ws[j] ∧ g.ws[j] ≤ 1000
      · rw [if_pos h1, if_neg (by simp; omega)]
      · rw [if_neg h1, if_pos (by simp; omega)]
    · cases h
set_option maxRecDepth 100000 in
set_option maxHeartbeats 1000000 in
theorem heavy_any (W0 : World) (g : Sg) (p bp bc : Nat) (vn vw : Value) (L : Nat) (wt : Int) (c : Int → Int) (x : ByteArray) (W : World) (hS : Sc W0 g p bp bc vn vw L wt c W) (hx : x.size ≤ maxLen) :
    Calls Tryz.prog 133 #[.pointer (some ⟨p, 0, none⟩), .string x] W fun e W' => e = .returned (.int .i64 (g.hv x)) ∧ W' = W := by
  obtain ⟨⟨c0, c1, c2, c3, c4, c5, c6⟩, _⟩ := sbox_facts hS.box
  obtain ⟨k, hk⟩ := hS.pm
  have hl := hk.look keyed9 Tryz.underlying99 (zero3 W) (key9 hx)
  have hw : RowAt (.int .i64) W vw g.ws := hS.sg.ws.keep hS.bel (Nat.le_refl _)
  clear hS
  cases hi : ixL (g.ns.take (min g.ns.length g.ws.length)) x with
  | none =>
    have HP : Hid (g.hv x = 1) := hv_no hi
    obtain ⟨hl1, _⟩ := hl.2 (by simp [pmL, hi])
    clear hl hi hw hk
    go_enter Tryz.func133, Tryz.ntmps133
    go_wp2
    go_ret
    exact ⟨ret_i64 HP.out.symm, rfl⟩
  | some j =>
    obtain ⟨hj, hv⟩ := hv_yes hi
    obtain ⟨hl1, _⟩ := hl.1 (.int .i64 (j : Int)) (by simp [pmL, hi])
    obtain ⟨aw, cw, rfl, _, _⟩ := hw.slice
    obtain ⟨b, o, rfl, hbl, hcell⟩ := hw.nth hj
    have hcall := badW_any g.ws[j] W
    have hj1 : (0 : Int) ≤ (j : Int) := by omega
    have hj2 : (j : Int) < (g.ws.length : Int) := by omega
    cases hb : badW g.ws[j]
    · rw [hb] at hv hcall
      have HP : Hid (g.hv x = g.ws[j]) := hv
      clear hl hi hw hk hv hb
      go_enter Tryz.func133, Tryz.ntmps133
      go_wp2_with (first | (go_at_call 62; refine hcall.mono ?_; rintro e w3 ⟨rfl, rfl⟩))
      go_ret
      exact ⟨ret_i64 HP.out.symm, rfl⟩
    · rw [hb] at hv hcall
      have HP : Hid (g.hv x = 1) := hv
      clear hl hi hw hk hv hb
      go_enter Tryz.func133, Tryz.ntmps133
      go_wp2_with (first | (go_at_call 62; refine hcall.mono ?_; rintro e w3 ⟨rfl, rfl⟩))
      go_ret
      exact ⟨ret_i64 HP.out.symm, rfl⟩
set_option maxHeartbeats 400000 in
theorem kisVar_any (t : T) (a : Option Addr) (n c : Nat) (w : World) :
    Calls Tryz.prog 88 #[tval t (.slice a n c)] w fun e w' => e = .returned (.bool (decide (t.fn.size = 0))) ∧ Below w.heap.size w w' := by
  have he := ba_isEmpty t.fn
  have HE : Hid (t.fn.toList.isEmpty = decide (t.fn.size = 0)) := he
  clear he
  go_enter Tryz.func88, Tryz.ntmps88
  go_wp2
  all_goals go_ret
  all_goals exact ⟨ret_bool (by rw [← HE.out]), below_box w _⟩
end Go.Proofs.YtglphfhlpobgcaaGreat
