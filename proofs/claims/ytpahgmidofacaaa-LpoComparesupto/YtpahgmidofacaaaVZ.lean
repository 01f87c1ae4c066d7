import Derived.Test.YtpahgmidofacaaaVX

/-
  The document's table in memory, as it is filled.
-/
namespace Go.Proofs.Ytpahgmidofacaaa
open Go.RowKit Go.Maps

/-- Of two parts, whichever the first is. -/
theorem one_any {w0 w : World} {g : Sg} {vn vw : Value} {px bx cx ox kx py by_ cy oy ky bt ct i k : Nat} {X Y : List T} {Ox Oy : List (List Nat)} {sax sox say soy : Nat → Value} (hX : Vw w0 w px X Ox bx cx ox kx sax sox) (hY : Vw w0 w py Y Oy by_ cy oy ky say soy) (hT : Tab g X Y i k bt w) (hi : i < X.length) (hk : k < Y.length) (hg : SgAt w0 g vn vw) (hw : Below w0.heap.size w0 w) :
    Calls Try.prog 52 #[gval vn vw, .pointer (some ⟨px, 0, none⟩), .pointer (some ⟨py, 0, none⟩), .slice (some ⟨bt, 0, none⟩) X.length ct, .int .i64 (i : Int), .int .i64 (k : Int)] w fun e w' => e = .returned (.bool (lgB g X[i] Y[k])) ∧ Below w.heap.size w w' := by
  by_cases h0 : X[i].fn.size = 0
  · rw [(one_step g X[i] Y[k]).1 h0]
    obtain ⟨a, c, e, _, _⟩ := hg.ns.slice
    obtain ⟨a', c', e', _, _⟩ := hg.ws.slice
    exact one_var hX hY hi hk h0 ⟨_, _, _, e⟩ ⟨_, _, _, e'⟩ _
  · exact one_fn hX hY hT hi hk h0 hg hw

/-- The table: ii rows are there, all entries of rows below i, and those below k in row i, are told. -/
structure Tb (W7 : World) (g : Sg) (X Y : List T) (ii i k bt : Nat) (rb : Nat → Nat) (W : World) : Prop where
  bel : Below W7.heap.size W7 W
  low : W7.heap.size ≤ bt
  t : ∃ cur : Array Value, W.heap[bt]? = some (.cells cur 118 (0, 0)) ∧ cur.size = X.length ∧ ∀ i', i' < ii → cur[i']? = some (.slice (some ⟨rb i', 0, none⟩) Y.length Y.length)
  r : ∀ i', i' < ii → ∃ rc : Array Value, W.heap[rb i']? = some (.cells rc 4 (0, 0)) ∧ rc.size = Y.length ∧ ∀ (h : i' < X.length) k' (h' : k' < Y.length), (i' < i ∨ k' < k) → rc[k']? = some (.bool (lgB g X[i'] Y[k']))
  up : ∀ i', i' < ii → bt < rb i'
  ne : ∀ i' j', i' < j' → j' < ii → rb i' ≠ rb j'

section
variable {W7 : World} {g : Sg} {X Y : List T} {ii i k bt : Nat} {rb : Nat → Nat} {W W' : World}

theorem Tb.btlt (h : Tb W7 g X Y ii i k bt rb W) : bt < W.heap.size := by
  obtain ⟨cur, h1, _⟩ := h.t
  exact (Array.getElem?_eq_some_iff.1 h1).1
theorem Tb.below (h : Tb W7 g X Y ii i k bt rb W) (hb : Below W.heap.size W W') : Tb W7 g X Y ii i k bt rb W' := by
  refine ⟨h.bel.trans (hb.mono h.bel.size), h.low, ?_, fun i' hi => ?_, h.up, h.ne⟩
  · obtain ⟨cur, h1, h2⟩ := h.t
    exact ⟨cur, (hb.block bt (Array.getElem?_eq_some_iff.1 h1).1).trans h1, h2⟩
  · obtain ⟨rc, h1, h2⟩ := h.r i' hi
    exact ⟨rc, (hb.block _ (Array.getElem?_eq_some_iff.1 h1).1).trans h1, h2⟩
theorem Tb.tab (h : Tb W7 g X Y (i + 1) i k bt rb W) : Tab g X Y i k bt W := by
  refine ⟨h.btlt, fun i' hi hle => ?_⟩
  obtain ⟨cur, h1, h2, h3⟩ := h.t
  obtain ⟨rc, q1, q2, q3⟩ := h.r i' (by omega)
  refine ⟨rb i', Y.length, ?_, (Array.getElem?_eq_some_iff.1 q1).1, fun k' hk hq => ?_⟩
  · have e := h3 i' (by omega)
    simp only [World.cell?, h1]
    simpa using e
  · have e := q3 hi k' hk hq
    simp only [World.cell?, q1]
    simpa using e
theorem Tb.row (h : Tb W7 g X Y ii i k bt rb W) {i' : Nat} (hi : i' < ii) : W.cell? ⟨bt, i', none⟩ = some (.slice (some ⟨rb i', 0, none⟩) Y.length Y.length) := by
  obtain ⟨cur, h1, h2, h3⟩ := h.t
  have e := h3 i' hi
  simp only [World.cell?, h1]
  simpa using e
theorem Tb.entry (h : Tb W7 g X Y ii i k bt rb W) {i' k' : Nat} (hi : i' < ii) (hx : i' < X.length) (hk : k' < Y.length) (hq : i' < i ∨ k' < k) : W.cell? ⟨rb i', k', none⟩ = some (.bool (lgB g X[i'] Y[k'])) := by
  obtain ⟨rc, q1, q2, q3⟩ := h.r i' hi
  have e := q3 hx k' hk hq
  simp only [World.cell?, q1]
  simpa using e

theorem made_bool (n : Nat) : (madeCells #[.bool false] n).size = n := by unfold madeCells; simp
theorem made_rows (n : Nat) : (madeCells #[.slice none 0 0] n).size = n := by unfold madeCells; simp

/-- The table is made. -/
theorem tb_made (W7 : World) (g : Sg) (X Y : List T) (rb : Nat → Nat) : Tb W7 g X Y 0 0 0 W7.heap.size rb (W7.alloc (.cells (madeCells #[.slice none 0 0] X.length) 118)) :=
  ⟨below_box W7 _, Nat.le_refl _, ⟨_, (MapKept.heap_alloc W7 _).1, made_rows _, fun i' h => by omega⟩, fun i' h => by omega, fun i' h => by omega, fun i' j' h h' => by omega⟩

/-- A row more. -/
theorem Tb.add (h : Tb W7 g X Y i i 0 bt rb W) (hi : i < X.length) : ∃ rb', rb' i = W.heap.size ∧ Tb W7 g X Y (i + 1) i 0 bt rb' ((W.alloc (.cells (madeCells #[.bool false] Y.length) 4)).setCell ⟨bt, i, none⟩ (.slice (some ⟨W.heap.size, 0, none⟩) Y.length Y.length)) := by
  have hbt := h.btlt
  obtain ⟨W1, e1⟩ : ∃ X, W.alloc (.cells (madeCells #[.bool false] Y.length) 4) = X := ⟨_, rfl⟩
  have b1 : Below W.heap.size W W1 := by rw [← e1]; exact below_box W _
  have hr1 : W1.heap[W.heap.size]? = some (.cells (madeCells #[.bool false] Y.length) 4 (0, 0)) := by rw [← e1]; exact (MapKept.heap_alloc W _).1
  rw [e1]
  have h1 := h.below b1
  obtain ⟨cur, c1, c2, c3⟩ := h1.t
  have hset := Go.heap_setCell_same W1 bt i _ 118 (.slice (some ⟨W.heap.size, 0, none⟩) Y.length Y.length) c1
  have on := only_setCell W1 bt i (.slice (some ⟨W.heap.size, 0, none⟩) Y.length Y.length)
  have hrlt : ∀ i', i' < i → rb i' < W.heap.size := fun i' hi' => by
    obtain ⟨rc, q1, _⟩ := h.r i' hi'
    exact (Array.getElem?_eq_some_iff.1 q1).1
  refine ⟨fun m => if m = i then W.heap.size else rb m, by simp, h1.bel.trans (on.below (by have := h1.bel.size; omega) (by simpa using h.low)), h.low, ⟨_, hset, by simp [c2], fun i' hi' => ?_⟩, fun i' hi' => ?_, fun i' hi' => ?_, fun i' j' hij hj' => ?_⟩
  · by_cases e : i' = i
    · subst e
      simp [c2, hi]
    · have := c3 i' (by omega)
      simp only [if_neg e]
      rw [← this]
      simp [Ne.symm e]
  · by_cases e : i' = i
    · subst e
      simp only [if_true]
      have hlt := (Array.getElem?_eq_some_iff.1 hr1).1
      exact ⟨_, (on.block _ hlt (by simp; omega)).trans hr1, made_bool _, fun _ k' _ hq => by omega⟩
    · simp only [if_neg e]
      obtain ⟨rc, q1, q2, q3⟩ := h1.r i' (by omega)
      have hu := h.up i' (by omega)
      exact ⟨rc, (on.block _ (Array.getElem?_eq_some_iff.1 q1).1 (by simp; omega)).trans q1, q2, fun hx k' hk hq => q3 hx k' hk hq⟩
  · by_cases e : i' = i
    · subst e; simpa using hbt
    · simp only [if_neg e]
      exact h.up i' (by omega)
  · have e1 : i' ≠ i := by omega
    simp only [if_neg e1]
    by_cases e : j' = i
    · subst e
      simp only [if_true]
      have := hrlt i' (by omega)
      omega
    · simp only [if_neg e]
      exact h.ne i' j' hij (by omega)

/-- An entry more. -/
theorem Tb.put (h : Tb W7 g X Y (i + 1) i k bt rb W) (hi : i < X.length) (hk : k < Y.length) (b1 : Below W.heap.size W W') : Tb W7 g X Y (i + 1) i (k + 1) bt rb (W'.setCell ⟨rb i, k, none⟩ (.bool (lgB g X[i] Y[k]))) := by
  have h1 := h.below b1
  obtain ⟨rc, q1, q2, q3⟩ := h1.r i (by omega)
  have hset := Go.heap_setCell_same W' (rb i) k _ 4 (.bool (lgB g X[i] Y[k])) q1
  have on := only_setCell W' (rb i) k (.bool (lgB g X[i] Y[k]))
  have hu := h.up i (by omega)
  have hl := h.low
  refine ⟨h1.bel.trans (on.below (by have := h1.bel.size; omega) (by simp; omega)), h.low, ?_, fun i' hi' => ?_, h.up, h.ne⟩
  · obtain ⟨cur, c1, c2⟩ := h1.t
    exact ⟨cur, (on.block _ (Array.getElem?_eq_some_iff.1 c1).1 (by simp; omega)).trans c1, c2⟩
  · by_cases e : i' = i
    · subst e
      refine ⟨_, hset, by simp [q2], fun hx k' hk' hq => ?_⟩
      by_cases e' : k' = k
      · subst e'
        simp [q2, hk]
      · have := q3 hx k' hk' (.inr (by omega))
        rw [← this]
        simp [Ne.symm e']
    · obtain ⟨rc', p1, p2, p3⟩ := h1.r i' hi'
      exact ⟨rc', (on.block _ (Array.getElem?_eq_some_iff.1 p1).1 (by simpa using h.ne i' i (by omega) (by omega))).trans p1, p2, fun hx k' hk' hq => p3 hx k' hk' (.inl (by omega))⟩
/-- A row is full. -/
theorem Tb.full (h : Tb W7 g X Y (i + 1) i k bt rb W) (hk : Y.length ≤ k) : Tb W7 g X Y (i + 1) (i + 1) 0 bt rb W := by
  refine ⟨h.bel, h.low, h.t, fun i' hi' => ?_, h.up, h.ne⟩
  obtain ⟨rc, q1, q2, q3⟩ := h.r i' hi'
  exact ⟨rc, q1, q2, fun hx k' hk' _ => q3 hx k' hk' (.inr (by omega))⟩
end

end Go.Proofs.Ytpahgmidofacaaa

/-
  The document's Greater.
-/
namespace Go.Proofs.Ytpahgmidofacaaa
open Go.RowKit Go.Maps

section
variable {W7 : World} {g : Sg} {X Y : List T} {ii i k bt : Nat} {rb : Nat → Nat} {W W' : World}
theorem Tb.cellT (h : Tb W7 g X Y ii i k bt rb W) {i' : Nat} (hi : i' < X.length) : ∃ v, W.cell? ⟨bt, i', none⟩ = some v ∧ W.frozen? ⟨bt, i', none⟩ = false := by
  obtain ⟨cur, h1, h2, h3⟩ := h.t
  exact ⟨cur[i']'(by omega), by simp [World.cell?, h1, h2, hi], by simp [World.frozen?, h1]⟩
theorem Tb.cellR (h : Tb W7 g X Y (i + 1) i k bt rb W) (_ : i < X.length) {k' : Nat} (hk : k' < Y.length) : ∃ v, W.cell? ⟨rb i, k', none⟩ = some v ∧ W.frozen? ⟨rb i, k', none⟩ = false := by
  obtain ⟨rc, h1, h2, h3⟩ := h.r i (by omega)
  exact ⟨rc[k']'(by omega), by simp [World.cell?, h1, h2, hk], by simp [World.frozen?, h1]⟩
end

theorem Vw.mono {w0 W W' : World} {pb : Nat} {X : List T} {O : List (List Nat)} {bl cl bo co : Nat} {sa so : Nat → Value} (h : Vw w0 W pb X O bl cl bo co sa so) (hb : Below W.heap.size W W') : Vw w0 W' pb X O bl cl bo co sa so := h.below hb

theorem Try.info118f : (Try.prog.info? 118).map (fun i => (i.zero, i.size, i.bytes)) = some (some (.slice none 0 0), 1, 24) := by kernel_rfl
theorem Try.info4f : (Try.prog.info? 4).map (fun i => (i.zero, i.size, i.bytes)) = some (some (.bool false), 1, 1) := by kernel_rfl

/-- The first list is laid. -/
structure Sx (w : World) (x : T) (px n : Nat) (W5 W6 : World) (ps : List (T × Value)) (os : List (Value × List Nat)) (vl vo : Value) : Prop where
  ly : Ly w px ps os vl vo W6
  on : Only [px] W5 W6
  len : ps.length = n + 1
  le : ps.length ≤ 8000
  at_ : ∃ h : n < ps.length, ps[n].1 = x
  gl : ∀ g, vl.ownBlock = some g → W5.heap.size ≤ g
  go : ∀ g, vo.ownBlock = some g → W5.heap.size ≤ g
  gr : ∀ o ∈ os, ∀ g, o.1.ownBlock = some g → W5.heap.size ≤ g

theorem lay_new (w : World) (pb : Nat) (t : T) (sl : Value) (W : World) (hh : W.heap[pb]? = some (.cells #[.slice none 0 0, .slice none 0 0] 116 (0, 0))) (hl : w.heap.size ≤ pb) (ha : ArgsAt w sl t.args) (hb : Below w.heap.size w W) (hz : t.size ≤ 4000) :
    Calls Try.prog 51 #[.pointer (some ⟨pb, 0, none⟩), tval t sl] W fun e W' => ∃ n ps os vl vo, e = .returned (.int .i64 ((n : Nat) : Int)) ∧ Sx w t pb n W W' ps os vl vo := by
  have h0 : Ly w pb [] [] (.slice none 0 0) (.slice none 0 0) W := ⟨hh, ⟨rfl, .inl ⟨rfl, rfl⟩⟩, ⟨rfl, .inl ⟨rfl, rfl⟩⟩, rfl, by simp, by simp, fun i h => by simp at h, hl⟩
  refine (lay_any w pb t sl [] [] _ _ W h0 ha hb (by simp; omega)).mono ?_
  rintro e W' ⟨k, ps, os, vl, vo, rfl, h1, _, _, h2, h3, h4, h5, h6, h7, h8⟩
  refine ⟨k, ps, os, vl, vo, rfl, h1, h5, h2, by simp at h3; omega, h4, fun g hg => ?_, fun g hg => ?_, fun o ho g hg => ?_⟩
  · rcases h6 g hg with q | q
    · simp [Value.ownBlock] at q
    · exact q
  · rcases h7 g hg with q | q
    · simp [Value.ownBlock] at q
    · exact q
  · rcases h8 o ho with q | q
    · simp at q
    · exact q g hg

set_option maxRecDepth 100000 in
set_option maxHeartbeats 8000000 in
theorem greater_ok : GreaterOk := by
  intro g x y vn vw sx sy w hg hax hay _ _ hzx hzy
  obtain ⟨an, cn, rfl, _, _⟩ := hg.ns.slice
  obtain ⟨aw, cw, rfl, _, _⟩ := hg.ws.slice
  obtain ⟨a, ca, rfl, _, _⟩ := hax.slice
  obtain ⟨b, cb, rfl, _, _⟩ := hay.slice
  obtain ⟨WA, hWA⟩ : ∃ X, ((w.alloc (.cells #[.slice an g.ns.length cn, .slice aw g.ws.length cw] 25)).alloc (tbox x (.slice a x.args.length ca))).alloc (tbox y (.slice b y.args.length cb)) = X := ⟨_, rfl⟩
  obtain ⟨WB, hWB⟩ : ∃ X, WA.alloc (.cells #[.slice none 0 0, .slice none 0 0] 116) = X := ⟨_, rfl⟩
  obtain ⟨WC, hWC⟩ : ∃ X, WB.alloc (.cells #[.slice none 0 0, .slice none 0 0] 116) = X := ⟨_, rfl⟩
  have hTr := tri_made w (.slice an g.ns.length cn) (.slice aw g.ws.length cw) 25 x (.slice a x.args.length ca) y (.slice b y.args.length cb)
  rw [hWA] at hTr
  have sA : WA.heap.size = w.heap.size + 3 := by rw [← hWA]; simp
  have sB : WB.heap.size = w.heap.size + 4 := by rw [← hWB]; simp [sA]
  have sC : WC.heap.size = w.heap.size + 5 := by rw [← hWC]; simp [sB]
  have bB : Below WA.heap.size WA WB := by rw [← hWB]; exact below_box _ _
  have bC : Below WB.heap.size WB WC := by rw [← hWC]; exact below_box _ _
  have hpx : WC.heap[w.heap.size + 3]? = some (.cells #[.slice none 0 0, .slice none 0 0] 116 (0, 0)) := by
    refine (bC.block _ (by omega)).trans ?_
    have := (MapKept.heap_alloc WA (.cells #[.slice none 0 0, .slice none 0 0] 116)).1
    rw [hWB, sA] at this
    exact this
  have hpy : WC.heap[w.heap.size + 4]? = some (.cells #[.slice none 0 0, .slice none 0 0] 116 (0, 0)) := by
    have := (MapKept.heap_alloc WB (.cells #[.slice none 0 0, .slice none 0 0] 116)).1
    rw [hWC, sB] at this
    exact this
  have hTc := (hTr.keep bB).keep bC
  have hl1 := lay_new w (w.heap.size + 3) x (.slice a x.args.length ca) WC hpx (by omega) hax hTc.bel hzx
  have HC : Hid (Tri w (.slice an g.ns.length cn) (.slice aw g.ws.length cw) x (.slice a x.args.length ca) y (.slice b y.args.length cb) WC ∧ WC.heap[w.heap.size + 4]? = some (.cells #[.slice none 0 0, .slice none 0 0] 116 (0, 0)) ∧ WC.heap.size = w.heap.size + 5) := ⟨hTc, hpy, sC⟩
  have HY : Hid (ArgsAt w (.slice b y.args.length cb) y.args ∧ y.size ≤ 4000 ∧ SgAt w g (.slice an g.ns.length cn) (.slice aw g.ws.length cw)) := ⟨hay, hzy, hg⟩
  have x0 := hTc.a0
  have x1 := hTc.a1
  have x2 := hTc.a2
  clear hTr bB bC hpx hpy hTc hax hay hzx hzy hg sC
  go_enter Try.func27, Try.ntmps27
  try rw [hWA]
  go_wp2_with fail
  try rw [hWA]
  try rw [hWB]
  try rw [hWC]
  try rw [sA]
  try rw [sB]
  refine hl1.mono ?_
  rintro e W6 ⟨n, ps, os, vl, vo, rfl, hS⟩
  have h6 : ∀ bk, bk < w.heap.size + 5 → bk ≠ w.heap.size + 3 → W6.heap[bk]? = WC.heap[bk]? := fun bk hb hne => hS.on.block bk (by rw [HC.out.2.2]; exact hb) (by simpa using hne)
  have b06 : Below w.heap.size w W6 := HC.out.1.bel.trans (hS.on.below (by rw [HC.out.2.2]; omega) (by simp))
  have c6 : ∀ bk o v, bk < w.heap.size + 5 → bk ≠ w.heap.size + 3 → WC.cell? ⟨bk, o, none⟩ = some v → W6.cell? ⟨bk, o, none⟩ = some v := fun bk o v hb hne hc => cell_on hS.on (by simpa using hne) hc
  have y0 := c6 _ _ _ (by omega) (by omega) HC.out.1.b0
  have y1 := c6 _ _ _ (by omega) (by omega) HC.out.1.b1
  have y2 := c6 _ _ _ (by omega) (by omega) HC.out.1.b2
  have g0 := c6 _ _ _ (by omega) (by omega) HC.out.1.g0
  have g1 := c6 _ _ _ (by omega) (by omega) HC.out.1.g1
  have hl2 := lay_new w (w.heap.size + 4) y (.slice b y.args.length cb) W6 ((h6 _ (by omega) (by omega)).trans HC.out.2.1) (by omega) HY.out.1 b06 HY.out.2.1
  have HS : Hid (Sx w x (w.heap.size + 3) n WC W6 ps os vl vo ∧ W6.cell? ⟨w.heap.size, 0, none⟩ = some (.slice an g.ns.length cn) ∧ W6.cell? ⟨w.heap.size, 1, none⟩ = some (.slice aw g.ws.length cw) ∧ Below w.heap.size w W6) := ⟨hS, g0, g1, b06⟩
  clear hS h6 b06 c6 g0 g1 x0 x1 x2 hl1
  go_wp2_with fail
  refine hl2.mono ?_
  rintro e W7 ⟨m, qs, rs, ul, uo, rfl, hR⟩
  obtain ⟨hS, g0', g1', b06⟩ := HS.out
  have hs6 : w.heap.size + 5 ≤ W6.heap.size := by have := hS.on.size; rw [HC.out.2.2] at this; exact this
  have hsc := HC.out.2.2
  have hLx : Ly w (w.heap.size + 3) ps os vl vo W7 := hS.ly.keep2 (fun r hr => hR.on.block r (hS.ly.there r hr) (by
      simp only [pbs, List.mem_cons, List.mem_append, Option.mem_toList] at hr
      simp only [List.mem_singleton]
      rcases hr with rfl | hr | hr
      · omega
      · have := hS.gl r hr; omega
      · have := hS.go r hr; omega)) (fun o ho r hr => hR.on.block r (by
      obtain ⟨_, cur, hc⟩ := row_block (hS.ly.rw o ho) hr
      exact (Array.getElem?_eq_some_iff.1 hc).1) (by have := hS.gr o ho r hr; simp only [List.mem_singleton]; omega))
  obtain ⟨bx, cx, ox, kx, sax, sox, rfl, rfl, hX⟩ := vw_of hLx (by have := hS.len; omega) hS.le
  obtain ⟨by_, cy, oy, ky, say, soy, rfl, rfl, hY⟩ := vw_of hR.ly (by have := hR.len; omega) hR.le
  have b07 : Below w.heap.size w W7 := b06.trans (hR.on.below (by omega) (by simp))
  have g0 := cell_on hR.on (by simp) g0'
  have g1 := cell_on hR.on (by simp) g1'
  obtain ⟨X, eX⟩ : ∃ X, ps.map (·.1) = X := ⟨_, rfl⟩
  obtain ⟨Y, eY⟩ : ∃ Y, qs.map (·.1) = Y := ⟨_, rfl⟩
  obtain ⟨Ox, eOx⟩ : ∃ O, os.map (·.2) = O := ⟨_, rfl⟩
  obtain ⟨Oy, eOy⟩ : ∃ O, rs.map (·.2) = O := ⟨_, rfl⟩
  have lX : X.length = n + 1 := by rw [← eX]; simpa using hS.len
  have lY : Y.length = m + 1 := by rw [← eY]; simpa using hR.len
  have hxn : ∃ h : n < X.length, X[n] = x := by
    obtain ⟨h, e⟩ := hS.at_
    exact ⟨by omega, by subst eX; simpa using e⟩
  have hym : ∃ h : m < Y.length, Y[m] = y := by
    obtain ⟨h, e⟩ := hR.at_
    exact ⟨by omega, by subst eY; simpa using e⟩
  rw [eX, eOx] at hX
  rw [eY, eOy] at hY
  have k0 := hX.c0
  have k1 := hY.c0
  have hX8 := hX.le
  have hY8 := hY.le
  have HV : Hid (Vw w W7 (w.heap.size + 3) X Ox bx cx ox kx sax sox ∧ Vw w W7 (w.heap.size + 4) Y Oy by_ cy oy ky say soy ∧ Below w.heap.size w W7 ∧ SgAt w g (.slice an g.ns.length cn) (.slice aw g.ws.length cw)) := ⟨hX, hY, b07, HY.out.2.2⟩
  have HN : Hid (X.length = n + 1 ∧ Y.length = m + 1 ∧ (∃ h : n < X.length, X[n] = x) ∧ ∃ h : m < Y.length, Y[m] = y) := ⟨lX, lY, hxn, hym⟩
  have HG : Hid (W7.cell? ⟨w.heap.size, 0, none⟩ = some (.slice an g.ns.length cn) ∧ W7.cell? ⟨w.heap.size, 1, none⟩ = some (.slice aw g.ws.length cw) ∧ w.heap.size < W7.heap.size) := ⟨g0, g1, by have := hR.on.size; omega⟩
  have hmk1 := fun w' => run_make_row' (P := Try.prog) 117 118 (.slice none 0 0) 24 Try.underlying117 Try.info118f rfl .i64 .i64 X.length (by omega) (by omega) w'
  have hmk2 := fun w' => run_make_row' (P := Try.prog) 118 4 (.bool false) 1 Try.underlying118 Try.info4f rfl .i64 .i64 Y.length (by omega) (by omega) w'
  have HT0 : Hid (∃ rb, Tb W7 g X Y 0 0 0 W7.heap.size rb (W7.alloc (.cells (madeCells #[.slice none 0 0] X.length) 118))) := ⟨fun _ => 0, tb_made W7 g X Y _⟩
  clear hS hR hLx hX hY b07 g0 g1 eX eY eOx eOy lX lY hxn hym hs6 hsc HS HC HY b06 g0' g1' hl2 y0 y1 y2
  obtain ⟨W8, hW8⟩ : ∃ Z, W7.alloc (.cells (madeCells #[.slice none 0 0] X.length) 118) = Z := ⟨_, rfl⟩
  rw [hW8] at HT0
  go_wp2
  try rw [hW8]
  clear k0 k1
  go_loopw [12] (fun vi wr => ∃ i : Nat, vi = .int .i64 i ∧ i ≤ X.length ∧ Hid (∃ rb, Tb W7 g X Y i i 0 W7.heap.size rb wr)) (fun vi _ => X.length - (intOf vi).toNat)
  case atStart => exact ⟨0, rfl, Nat.zero_le _, HT0.out⟩
  case round =>
    obtain ⟨i, rfl, hi, HT⟩ := hrel
    obtain ⟨rb, hT⟩ := HT.out
    have b7 := hT.bel
    have VX := HV.out.1.below b7
    have VY := HV.out.2.1.below b7
    have k0 := VX.c0
    have k1 := VY.c0
    by_cases hlt : i < X.length
    · obtain ⟨v0, t0, tf⟩ := (hT.below (below_box wr (.cells (madeCells #[.bool false] Y.length) 4))).cellT hlt
      obtain ⟨rb2, hrb, hT2⟩ := hT.add hlt
      have hiI : (i : Int) < (X.length : Int) := by omega
      have HEi : Hid (i < X.length) := hlt
      obtain ⟨wz, hwz⟩ : ∃ Z, (wr.alloc (.cells (madeCells #[.bool false] Y.length) 4)).setCell ⟨W7.heap.size, i, none⟩ (.slice (some ⟨wr.heap.size, 0, none⟩) Y.length Y.length) = Z := ⟨_, rfl⟩
      rw [hwz] at hT2
      have HT2 : Hid (Tb W7 g X Y (i + 1) i 0 W7.heap.size rb2 wz) := hT2
      clear hT2 hT b7 VX VY hlt hrb
      go_wp2
      try rw [hwz]
      clear t0 tf k0 k1 hwz
      obtain ⟨wo, hwo⟩ : ∃ Z, Z = wr := ⟨_, rfl⟩
      subst hwo
      go_loopw [13] (fun vk wr => ∃ k : Nat, vk = .int .i64 k ∧ k ≤ Y.length ∧ Hid (Tb W7 g X Y (i + 1) i k W7.heap.size rb2 wr)) (fun vk _ => Y.length - (intOf vk).toNat)
      case atStart => exact ⟨0, rfl, Nat.zero_le _, HT2.out⟩
      case round =>
        obtain ⟨k, rfl, hk, HT3⟩ := hrel
        have b7 := HT3.out.bel
        have k1 := (HV.out.2.1.below b7).c0
        by_cases hkl : k < Y.length
        · have hkI : (k : Int) < (Y.length : Int) := by omega
          have hd : Below wr.heap.size wr wr.drew := (Below.refl _ wr).drew
          have hup := HT3.out.up i (by omega)
          have b7d : Below W7.heap.size W7 wr.drew := b7.drew
          have HTd : Hid (Tb W7 g X Y (i + 1) i k W7.heap.size rb2 wr.drew) := HT3.out.below hd
          have q1 : ∀ Z, Only [rb2 i] wr.drew Z → Z.cell? ⟨W7.heap.size, i, none⟩ = some (.slice (some ⟨rb2 i, 0, none⟩) Y.length Y.length) := fun Z hZ => cell_on hZ (by simp; omega) (HTd.out.row (by omega))
          have q2 : ∀ Z, Only [rb2 i] wr.drew Z → Z.cell? ⟨w.heap.size, 0, none⟩ = some (.slice an g.ns.length cn) ∧ Z.cell? ⟨w.heap.size, 1, none⟩ = some (.slice aw g.ws.length cw) := fun Z hZ => by
            have e := HG.out.2.2
            exact ⟨cell_on hZ (by simp; omega) (kc b7d e HG.out.1), cell_on hZ (by simp; omega) (kc b7d e HG.out.2.1)⟩
          have hone := one_any (ct := X.length) (HV.out.1.below b7d) (HV.out.2.1.below b7d) HTd.out.tab HEi.out hkl HV.out.2.2.2 (HV.out.2.2.1.trans (b7d.mono HV.out.2.2.1.size))
          clear HT3 b7 hd b7d
          go_wp2
          refine wp_region_held_drew (S := fun Z => Only [rb2 i] wr.drew Z) (by kernel_rfl) (Only.refl _ _) (fun hHeld => ?_)
          obtain ⟨wd, hwd⟩ : ∃ Z, wr.drew = Z := ⟨_, rfl⟩
          rw [hwd] at hHeld q1 q2 hone HTd ⊢
          clear hwd
          refine take_mk 0 (.slice (some ⟨W7.heap.size, 0, none⟩) X.length X.length) rfl (by kernel_rfl) (by kernel_rfl) (by kernel_rfl) (fun _ _ _ h => h) (Or.inl ⟨by rfl, fun Z hZ => by go_simp⟩) (by assumption) ?_
          try simp only [Act.put, List.setIfInBounds_toArray, List.set_cons_zero, List.set_cons_succ]
          refine take_mk 1 (.int .i64 (i : Int)) rfl (by kernel_rfl) (by kernel_rfl) (by kernel_rfl) (fun _ _ _ h => h) (Or.inl ⟨by rfl, fun Z hZ => by go_simp⟩) (by assumption) ?_
          try simp only [Act.put, List.setIfInBounds_toArray, List.set_cons_zero, List.set_cons_succ]
          refine take_mk 2 (.pointer (some ⟨W7.heap.size, i, none⟩)) rfl (by kernel_rfl) (by kernel_rfl) (by kernel_rfl) (fun _ _ _ h => h) (Or.inl ⟨by rfl, fun Z hZ => by go_simp; try (intro hh; exact absurd hh (by omega))⟩) (by assumption) ?_
          try simp only [Act.put, List.setIfInBounds_toArray, List.set_cons_zero, List.set_cons_succ]
          refine take_mk 3 (.slice (some ⟨rb2 i, 0, none⟩) Y.length Y.length) rfl (by kernel_rfl) (by kernel_rfl) (by kernel_rfl) (fun _ _ _ h => h) (Or.inl ⟨by rfl, fun Z hZ => by have := q1 Z hZ; go_simp⟩) (by assumption) ?_
          try simp only [Act.put, List.setIfInBounds_toArray, List.set_cons_zero, List.set_cons_succ]
          refine take_mk 4 (.int .i64 (k : Int)) rfl (by kernel_rfl) (by kernel_rfl) (by kernel_rfl) (fun _ _ _ h => h) (Or.inl ⟨by rfl, fun Z hZ => by go_simp⟩) (by assumption) ?_
          try simp only [Act.put, List.setIfInBounds_toArray, List.set_cons_zero, List.set_cons_succ]
          refine take_mk 5 (gval (.slice an g.ns.length cn) (.slice aw g.ws.length cw)) rfl (by kernel_rfl) (by kernel_rfl) (by kernel_rfl) (fun _ _ _ h => h) (Or.inl ⟨by rfl, fun Z hZ => by obtain ⟨y0, y1⟩ := q2 Z hZ; go_simp⟩) (by assumption) ?_
          try simp only [Act.put, List.setIfInBounds_toArray, List.set_cons_zero, List.set_cons_succ]
          refine take_mk 6 (.pointer (some ⟨w.heap.size + 3, 0, none⟩)) rfl (by kernel_rfl) (by kernel_rfl) (by kernel_rfl) (fun _ _ _ h => h) (Or.inl ⟨by rfl, fun Z hZ => by go_simp⟩) (by assumption) ?_
          try simp only [Act.put, List.setIfInBounds_toArray, List.set_cons_zero, List.set_cons_succ]
          refine take_mk 7 (.pointer (some ⟨w.heap.size + 4, 0, none⟩)) rfl (by kernel_rfl) (by kernel_rfl) (by kernel_rfl) (fun _ _ _ h => h) (Or.inl ⟨by rfl, fun Z hZ => by go_simp⟩) (by assumption) ?_
          try simp only [Act.put, List.setIfInBounds_toArray, List.set_cons_zero, List.set_cons_succ]
          refine take_mk 8 (.slice (some ⟨W7.heap.size, 0, none⟩) X.length X.length) rfl (by kernel_rfl) (by kernel_rfl) (by kernel_rfl) (fun _ _ _ h => h) (Or.inl ⟨by rfl, fun Z hZ => by go_simp⟩) (by assumption) ?_
          try simp only [Act.put, List.setIfInBounds_toArray, List.set_cons_zero, List.set_cons_succ]
          refine take_mk 9 (.int .i64 (i : Int)) rfl (by kernel_rfl) (by kernel_rfl) (by kernel_rfl) (fun _ _ _ h => h) (Or.inl ⟨by rfl, fun Z hZ => by go_simp⟩) (by assumption) ?_
          try simp only [Act.put, List.setIfInBounds_toArray, List.set_cons_zero, List.set_cons_succ]
          refine take_mk 10 (.int .i64 (k : Int)) rfl (by kernel_rfl) (by kernel_rfl) (by kernel_rfl) (fun _ _ _ h => h) (Or.inl ⟨by rfl, fun Z hZ => by go_simp⟩) (by assumption) ?_
          try simp only [Act.put, List.setIfInBounds_toArray, List.set_cons_zero, List.set_cons_succ]
          refine wpAnyH_ready (rs := [11]) (by kernel_rfl) (by simp) (AllReadyH.cons (o := ⟨_, _, _, _, _, _⟩) rfl (fun K hK => ?_) AllReadyH.nil)
          rw [if_pos (by rfl)]
          go_simp
          refine hone.mono ?_
          rintro e W2 ⟨rfl, hb2⟩
          refine hK.out _ _ (hHeld.trans (Only.of_below (B := []) hb2) (by simp)) (fun hHeld2 => ?_)
          clear hK K
          try simp only [Act.put, List.setIfInBounds_toArray, List.set_cons_zero, List.set_cons_succ]
          refine take_mk 12 (.pointer (some ⟨rb2 i, k, none⟩)) rfl (by kernel_rfl) (by kernel_rfl) (by kernel_rfl) (fun _ _ _ h => h) (Or.inl ⟨by rfl, fun Z hZ => by go_simp; try (intro hh; exact absurd hh (by omega))⟩) (by assumption) ?_
          try simp only [Act.put, List.setIfInBounds_toArray, List.set_cons_zero, List.set_cons_succ]
          obtain ⟨v0, z0, zf⟩ := (HTd.out.below hb2).cellR HEi.out hkl
          refine wpAnyH_ready (rs := [13]) (by kernel_rfl) (by simp) (AllReadyH.cons (o := ⟨_, _, _, _, _, _⟩) rfl (fun K hK => ?_) AllReadyH.nil)
          rw [if_pos (by rfl)]
          go_simp
          refine hK.out _ _ (hHeld2.trans (only_setCell W2 (rb2 i) k _) (fun r hr => .inl hr)) (fun _ => ?_)
          clear hK K
          refine wpAnyH_done (by kernel_rfl) ?_ _
          try simp only [Act.put]
          have HT3 : Hid (Tb W7 g X Y (i + 1) i (k + 1) W7.heap.size rb2 (W2.setCell ⟨rb2 i, k, none⟩ (.bool (lgB g (X[i]'(HEi.out)) (Y[k]'(hkl)))))) := HTd.out.put HEi.out hkl hb2
          obtain ⟨W3, hW3⟩ : ∃ Z, W2.setCell ⟨rb2 i, k, none⟩ (.bool (lgB g (X[i]'(HEi.out)) (Y[k]'(hkl)))) = Z := ⟨_, rfl⟩
          rw [hW3] at HT3 ⊢
          clear hW3 z0 zf hb2 hHeld2 hHeld q1 q2 hone
          go_wp2
          go_roundw
          case rel => exact ⟨k + 1, by go_num, by omega, HT3.out⟩
          case measure => simp [intOf]; omega
        · have HF : Hid (∃ rb, Tb W7 g X Y (i + 1) (i + 1) 0 W7.heap.size rb wr) := ⟨rb2, HT3.out.full (by omega)⟩
          clear HT3
          go_wp2
          go_roundw
          case rel => exact ⟨i + 1, by go_num, by have := HEi.out; omega, HF.out⟩
          case measure => simp [intOf]; have := HEi.out; omega
    · obtain ⟨e1, e2, ⟨hn, e3⟩, hm, e4⟩ := HN.out
      have r1 := hT.row (i' := n) (by omega)
      have r2 := hT.entry (i' := n) (k' := m) (by omega) hn hm (.inl (by omega))
      rw [e3, e4] at r2
      have hnI : (n : Int) < (X.length : Int) := by omega
      have hmI : (m : Int) < (Y.length : Int) := by omega
      have HB : Hid (Below w.heap.size w wr) := HV.out.2.2.1.trans (b7.mono HV.out.2.2.1.size)
      clear e1 e2 e3 e4 hT b7 VX VY
      go_wp2
      go_ret
      exact ⟨rfl, HB.out⟩

end Go.Proofs.Ytpahgmidofacaaa
