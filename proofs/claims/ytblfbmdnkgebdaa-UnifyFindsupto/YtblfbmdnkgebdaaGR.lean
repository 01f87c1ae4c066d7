import Derived.Test.YtblfbmdnkgebdaaGN
import Derived.Deep.QuietTactic
import Derived.BigQuiet

/-
  Measuring the classes: what is kept.
-/
namespace Go.Proofs.Ytblfbmdnkgebdaa
open Go.RowKit Go.Maps

theorem Upw.congr {ns ns' : List Nd} (hl : ns'.length = ns.length) (hu : ∀ i (h : i < ns.length) (h' : i < ns'.length), ns'[i].up = ns[i].up) {k i r : Nat} (h : Upw ns k i r) : Upw ns' k i r := by
  induction h with
  | here i hi e => exact .here i (by omega) (by rw [hu i hi (by omega)]; exact e)
  | step k i j r hi e hne _ ih => exact .step k i j r (by omega) (by rw [hu i hi (by omega)]; exact e) hne ih

theorem Gr.setm {ns : List Nd} {n : Nat} {tm : Nat → T} {fs h : Nat → Nat} (H : Gr ns n tm fs h) {r : Nat} (hr : r < ns.length) {m : Nd} (h1 : m.t = ns[r].t) (h2 : m.first = ns[r].first) (h3 : m.up = ns[r].up) : Gr (ns.set r m) n tm fs h := by
  have hget : ∀ x (hx : x < ns.length), (ns.set r m)[x]'(by simpa using hx) = if r = x then m else ns[x] := fun x hx => List.getElem_set _
  refine ⟨by rw [List.length_set]; exact H.len, fun i hi => ?_, fun i hi => ?_⟩
  · rw [List.length_set] at hi
    rw [hget i hi]
    by_cases e : r = i
    · subst e; rw [if_pos rfl, h1, h2]; exact H.nd _ hi
    · rw [if_neg e]; exact H.nd i hi
  · obtain ⟨k, hk⟩ := H.up i hi
    refine ⟨k, Upw.congr (by simp) (fun j hj hj' => ?_) hk⟩
    rw [hget j hj]
    by_cases e : r = j
    · subst e; rw [if_pos rfl, h3]
    · rw [if_neg e]

def opn (ns : List Nd) (i : Nat) : Bool := ((ns[i]?).map Nd.op).getD false
def szn (ns : List Nd) (i : Nat) : Int := ((ns[i]?).map Nd.size).getD 0
def dpn (ns : List Nd) (i : Nat) : Int := ((ns[i]?).map Nd.depth).getD 0
theorem opn_eq {ns : List Nd} {i : Nat} (h : i < ns.length) : opn ns i = ns[i].op := by unfold opn; rw [List.getElem?_eq_getElem h]; rfl
theorem szn_eq {ns : List Nd} {i : Nat} (h : i < ns.length) : szn ns i = ns[i].size := by unfold szn; rw [List.getElem?_eq_getElem h]; rfl
theorem dpn_eq {ns : List Nd} {i : Nat} (h : i < ns.length) : dpn ns i = ns[i].depth := by unfold dpn; rw [List.getElem?_eq_getElem h]; rfl

/-- How many are neither open nor measured; how many are measured. -/
def lft (n : Nat) (h : Nat → Nat) (ns : List Nd) : Nat := (List.range n).countP fun i => decide (h i = i) && !opn ns i && decide (szn ns i = 0)
def mcnt (n : Nat) (ns : List Nd) : Nat := (List.range n).countP fun i => decide (szn ns i ≠ 0)
theorem mcnt_le (n : Nat) (ns : List Nd) : mcnt n ns ≤ n := by
  unfold mcnt
  have := List.countP_le_length (p := fun i => decide (szn ns i ≠ 0)) (l := List.range n)
  simpa using this

/-- From one state of measuring to a later one. -/
structure Le8 (ns ns' : List Nd) : Prop where
  op : ∀ i, opn ns' i = opn ns i
  sz : ∀ i, szn ns i ≠ 0 → szn ns' i = szn ns i
  held : ∀ i, opn ns i = true → szn ns' i = szn ns i
theorem Le8.refl (ns : List Nd) : Le8 ns ns := ⟨fun _ => rfl, fun _ _ => rfl, fun _ _ => rfl⟩
theorem Le8.trans {a b c : List Nd} (h : Le8 a b) (k : Le8 b c) : Le8 a c :=
  ⟨fun i => (k.op i).trans (h.op i), fun i e => (k.sz i (by rw [h.sz i e]; exact e)).trans (h.sz i e), fun i e => (k.held i (by rw [h.op i]; exact e)).trans (h.held i e)⟩
theorem Le8.lft {n : Nat} {h : Nat → Nat} {ns ns' : List Nd} (H : Le8 ns ns') : lft n h ns' ≤ lft n h ns := by
  refine List.countP_mono_left fun i _ hp => ?_
  simp only [Bool.and_eq_true, decide_eq_true_eq, Bool.not_eq_true'] at hp ⊢
  refine ⟨⟨hp.1.1, by rw [← H.op i]; exact hp.1.2⟩, ?_⟩
  exact Classical.byContradiction fun e => e (by rw [← H.sz i e]; exact hp.2)
theorem Le8.mcnt {n : Nat} {ns ns' : List Nd} (H : Le8 ns ns') : mcnt n ns ≤ mcnt n ns' := by
  refine List.countP_mono_left fun i _ hp => ?_
  simp only [decide_eq_true_eq] at hp ⊢
  rw [H.sz i hp]
  exact hp
theorem Same8.le8 {ns ns' : List Nd} (S : Same8 ns ns') : Le8 ns ns' ∧ (∀ i, dpn ns' i = dpn ns i) ∧ ∀ i, szn ns' i = szn ns i := by
  have key : ∀ i, opn ns' i = opn ns i ∧ szn ns' i = szn ns i ∧ dpn ns' i = dpn ns i := fun i => by
    by_cases hi : i < ns.length
    · have hi' : i < ns'.length := by rw [S.1]; exact hi
      rw [opn_eq hi, opn_eq hi', szn_eq hi, szn_eq hi', dpn_eq hi, dpn_eq hi', S.2.1 i hi hi']
      exact ⟨rfl, rfl, rfl⟩
    · have e1 : ns[i]? = none := List.getElem?_eq_none (by omega)
      have e2 : ns'[i]? = none := List.getElem?_eq_none (by rw [S.1]; omega)
      unfold opn szn dpn
      rw [e1, e2]
      exact ⟨rfl, rfl, rfl⟩
  exact ⟨⟨fun i => (key i).1, fun i _ => (key i).2.1, fun i _ => (key i).2.1⟩, fun i => (key i).2.2, fun i => (key i).2.1⟩

/-- What is measured is right. -/
def Ms (n : Nat) (tm : Nat → T) (fs h : Nat → Nat) (ns : List Nd) : Prop := ∀ r, r < n → szn ns r ≠ 0 → ∃ t, Bl tm fs h r t ∧ szn ns r = min t.size 4001 ∧ dpn ns r = t.depth ∧ t.depth ≤ (mcnt n ns : Int)

/-- What never turns while it is measured. -/
structure MS (w0 w : World) (base g bv b c : Nat) (a bt : T) (n0 : Nat) (tm : Nat → T) (fs h : Nat → Nat) (ν : Nv) (n : Nat) : Prop where
  lay : Lay a bt n0 tm fs
  sol : Solved a bt n0 tm fs h
  lb : b < w.heap.size
  lw : base ≤ w.heap.size
  lg : g < w.heap.size
  lv : bv < w.heap.size
  small : n0 ≤ 8000
  shp : ∀ i, i < n0 → (tm i).shape = true

/-- The graph while it is measured. -/
structure ML (w0 w : World) (base g bv b c : Nat) (n0 : Nat) (tm : Nat → T) (fs h : Nat → Nat) (ν : Nv) (n : Nat) (ns : List Nd) (W : World) : Prop where
  gat : GAt w0 base g bv ns ν n (.slice (some ⟨b, 0, none⟩) ns.length c) W
  gr : Gr ns n0 tm fs h
  ms : Ms n0 tm fs h ns
  only : Only [b] w W

section
variable {w0 w : World} {base g bv b c : Nat} {a bt : T} {n0 : Nat} {tm : Nat → T} {fs h : Nat → Nat} {ν : Nv} {n : Nat} {ns ns' : List Nd} {W W' : World}

theorem ML.keep (H : ML w0 w base g bv b c n0 tm fs h ν n ns W) (hb : Below W.heap.size W W') : ML w0 w base g bv b c n0 tm fs h ν n ns W' :=
  ⟨H.gat.keep hb, H.gr, H.ms, H.only.trans (Only.of_below hb) (fun _r hr => .inl hr)⟩

theorem ML.head_any (H : ML w0 w base g bv b c n0 tm fs h ν n ns W) (hs : n0 ≤ 8000) {i : Nat} (hi : i < n0) :
    Calls Try.prog 54 #[.pointer (some ⟨g, 0, none⟩), .int .i64 i] W fun e W' => e = .returned (.int .i64 (h i : Int)) ∧ ∃ ns', ML w0 w base g bv b c n0 tm fs h ν n ns' W' ∧ Le8 ns ns' ∧ (∀ i, szn ns' i = szn ns i) ∧ Wrote b W W' := by
  obtain ⟨k, hk⟩ := H.gr.up i hi
  refine (Go.Proofs.Ytblfbmdnkgebdaa.head_any w0 base g bv b c ns ν n W H.gat k i (h i) hk (by have := H.gr.len; omega)).mono ?_
  rintro e W' ⟨rfl, ns', hs, hg, hw⟩
  obtain ⟨l1, l2, l3⟩ := hs.le8
  refine ⟨rfl, ns', ⟨by rw [hs.1]; exact hg, H.gr.same hs, fun r hr e => ?_, ?_⟩, l1, l3, hw⟩
  · rw [l3] at e ⊢
    rw [l2]
    obtain ⟨t, h1, h2, h3, h4⟩ := H.ms r hr e
    exact ⟨t, h1, h2, h3, Int.le_trans h4 (by have := l1.mcnt (n := n0); omega)⟩
  · exact H.only.trans ⟨hw.os, hw.tape, hw.output, by rw [hw.size]; exact Nat.le_refl _, fun k _ hn => hw.block k (by simpa using hn)⟩ (fun r hr => .inl hr)

/-- A field that is no term, no first node, no way up is written. -/
theorem ML.write (H : ML w0 w base g bv b c n0 tm fs h ν n ns W) {r : Nat} (hr : r < ns.length) {j : Nat} (hj : j < 8) {u : Value} {m : Nd} (e : (cells8 ns[r]).set j u = cells8 m) (h1 : m.t = ns[r].t) (h2 : m.first = ns[r].first) (h3 : m.up = ns[r].up) (hsl : m.sl = ns[r].sl) (hms : Ms n0 tm fs h (ns.set r m)) : ML w0 w base g bv b c n0 tm fs h ν n (ns.set r m) (W.setCell ⟨b, r * 8 + j, none⟩ u) := by
  refine ⟨by rw [List.length_set]; exact H.gat.write hr hj e (by rw [hsl, h1]; exact H.gat.args ns[r] (List.getElem_mem hr)), H.gr.setm hr h1 h2 h3, hms, ?_⟩
  exact H.only.trans (Only.setB (Below.refl _ _) b _ _) (fun r hr => .inl hr)
end

theorem get_set {ns : List Nd} {r : Nat} (hr : r < ns.length) (m : Nd) (i : Nat) : opn (ns.set r m) i = (if i = r then m.op else opn ns i) ∧ szn (ns.set r m) i = (if i = r then m.size else szn ns i) ∧ dpn (ns.set r m) i = (if i = r then m.depth else dpn ns i) := by
  unfold opn szn dpn
  rw [List.getElem?_set]
  by_cases e : r = i
  · subst e; simp [hr]
  · have e' : ¬ i = r := fun h => e h.symm
    simp [e, e']

/-- Capped sizes. -/
theorem cap_sum : ∀ l : List T, (∀ t ∈ l, 1 ≤ t.size) → min (1 + (l.map fun t => min t.size 4001).sum) 4001 = min (1 + (l.map T.size).sum) 4001 := by
  have key : ∀ l : List T, (∀ t ∈ l, 1 ≤ t.size) → 0 ≤ (l.map fun t => min t.size 4001).sum ∧ 0 ≤ (l.map T.size).sum ∧ ((l.map fun t => min t.size 4001).sum = (l.map T.size).sum ∨ (4001 ≤ (l.map fun t => min t.size 4001).sum ∧ 4001 ≤ (l.map T.size).sum)) := by
    intro l
    induction l with
    | nil => intro _; exact ⟨Int.le_refl _, Int.le_refl _, .inl rfl⟩
    | cons a r ih =>
      intro hl
      obtain ⟨h1, h2, h3⟩ := ih fun t ht => hl t (List.mem_cons_of_mem _ ht)
      have ha := hl a List.mem_cons_self
      simp only [List.map_cons, List.sum_cons]
      rcases h3 with h3 | h3
      · by_cases h : a.size ≤ 4001
        · exact ⟨by omega, by omega, .inl (by omega)⟩
        · exact ⟨by omega, by omega, .inr (by omega)⟩
      · exact ⟨by omega, by omega, .inr (by omega)⟩
  intro l hl
  have := key l hl
  omega

end Go.Proofs.Ytblfbmdnkgebdaa

/-
  graph.around.
-/
namespace Go.Proofs.Ytblfbmdnkgebdaa
open Go.RowKit Go.Maps

/-- What extent answers. -/
def EAns (w0 w : World) (base g bv b c : Nat) (n0 : Nat) (tm : Nat → T) (fs h : Nat → Nat) (ν : Nv) (n : Nat) (ns : List Nd) (W : World) (i : Nat) (e : Ending) (W' : World) : Prop :=
  Only [b] W W' ∧ ((∃ t ns', e = .returned (.agg #[.int .i64 (min t.size 4001), .int .i64 t.depth]) ∧ Bl tm fs h i t ∧ ML w0 w base g bv b c n0 tm fs h ν n ns' W' ∧ Le8 ns ns' ∧ t.depth ≤ (mcnt n0 ns' : Int)) ∨ (e = .panicked misfit ∧ ∀ φ, ¬ Rank n0 tm fs h φ))

/-- extent, as long as no more than N are left. -/
def ExtP (w0 w : World) (base g bv b c : Nat) (n0 : Nat) (tm : Nat → T) (fs h : Nat → Nat) (ν : Nv) (n : Nat) (N : Nat) : Prop :=
  ∀ (ns : List Nd) (W : World) (i : Nat), i < n0 → ML w0 w base g bv b c n0 tm fs h ν n ns W → lft n0 h ns ≤ N → (∀ φ, Rank n0 tm fs h φ → ∀ o, o < n0 → opn ns o = true → φ i < φ o) →
    Calls Try.prog 56 #[.pointer (some ⟨g, 0, none⟩), .int .i64 i] W fun e W' => EAns w0 w base g bv b c n0 tm fs h ν n ns W i e W'

/-- What around's loop keeps. -/
structure AI (w0 w : World) (base g bv b c : Nat) (n0 : Nat) (tm : Nat → T) (fs h : Nat → Nat) (ν : Nv) (n : Nat) (ns : List Nd) (W1 : World) (r k : Nat) (ts : List T) (ns' : List Nd) (wr : World) : Prop where
  len : ts.length = k
  bl : ∀ l (hl : l < ts.length), Bl tm fs h (fs r + l) ts[l]
  ml : ML w0 w base g bv b c n0 tm fs h ν n ns' wr
  le : Le8 ns ns'
  only : Only [b] W1 wr
  dep : (ts.map T.depth).foldl max 0 ≤ (mcnt n0 ns' : Int)

def szs (ts : List T) : Int := 1 + (ts.map fun t => min t.size 4001).sum
def dps (ts : List T) : Int := (ts.map T.depth).foldl max 0
theorem size_ge (t : T) : 1 ≤ t.size := by have := T.nn_size t; have := T.nn_pos t; omega
theorem fmax_ge : ∀ (l : List Int) (m : Int), m ≤ l.foldl max m
  | [], m => Int.le_refl _
  | a :: r, m => by have := fmax_ge r (max m a); simp only [List.foldl_cons]; omega
theorem szs_snoc (ts : List T) (t : T) : szs (ts ++ [t]) = szs ts + min t.size 4001 := by unfold szs; simp; omega
theorem dps_snoc (ts : List T) (t : T) : dps (ts ++ [t]) = max (dps ts) t.depth := by unfold dps; simp
theorem szs_bound (ts : List T) : 1 ≤ szs ts ∧ szs ts ≤ 1 + 4001 * ts.length := by
  have key : ∀ l : List T, 0 ≤ (l.map fun t => min t.size 4001).sum ∧ (l.map fun t => min t.size 4001).sum ≤ 4001 * l.length := by
    intro l
    induction l with
    | nil => exact ⟨Int.le_refl _, Int.le_refl _⟩
    | cons a r ih =>
      have := size_ge a
      simp only [List.map_cons, List.sum_cons, List.length_cons]
      omega
  have := key ts
  unfold szs
  omega
theorem dps_ge (ts : List T) : 0 ≤ dps ts := fmax_ge _ _

/-- A box of one's own is written. -/
theorem ML.setBox {w0 w : World} {base g bv b c : Nat} {n0 : Nat} {tm : Nat → T} {fs h : Nat → Nat} {ν : Nv} {n : Nat} {ns : List Nd} {W : World} (H : ML w0 w base g bv b c n0 tm fs h ν n ns W) (lb : b < w.heap.size) (lg : g < w.heap.size) (lv : bv < w.heap.size) {B : Nat} (hB : w.heap.size ≤ B) (o : Nat) (u : Value) : ML w0 w base g bv b c n0 tm fs h ν n ns (W.setCell ⟨B, o, none⟩ u) := by
  have key : ∀ k, k < w.heap.size → (W.setCell ⟨B, o, none⟩ u).heap[k]? = W.heap[k]? := fun k hk => Below.heap_setCell _ _ _ k (by show k ≠ B; omega)
  refine ⟨⟨(key g lg).trans H.gat.box, row6_keep H.gat.row (fun k e => ?_), H.gat.map.same (key bv lv), H.gat.args, H.gat.ne, H.gat.own⟩, H.gr, H.ms, ⟨H.only.os, H.only.tape, H.only.output, by simpa using H.only.size, fun k hk hn => (key k hk).trans (H.only.block k hk hn)⟩⟩
  cases e
  exact key b lb
theorem Only.setBox {b : Nat} {W X : World} (h : Only [b] W X) {B : Nat} (hB : W.heap.size ≤ B) (o : Nat) (u : Value) : Only [b] W (X.setCell ⟨B, o, none⟩ u) :=
  ⟨h.os, h.tape, h.output, by simpa using h.size, fun k hk hn => (Below.heap_setCell _ _ _ k (by show k ≠ B; omega)).trans (h.block k hk hn)⟩

set_option maxRecDepth 100000 in
set_option maxHeartbeats 4000000 in
theorem around_any (w0 w : World) (base g bv b c : Nat) (a bt : T) (n0 : Nat) (tm : Nat → T) (fs h : Nat → Nat) (ν : Nv) (n : Nat) (hS : MS w0 w base g bv b c a bt n0 tm fs h ν n) (N : Nat) (IH : ExtP w0 w base g bv b c n0 tm fs h ν n N)
    (ns : List Nd) (W : World) (r : Nat) (hr : r < n0) (hrr : h r = r) (hM : ML w0 w base g bv b c n0 tm fs h ν n ns W) (hN : lft n0 h ns ≤ N) (hP : ∀ φ, Rank n0 tm fs h φ → ∀ o, o < n0 → opn ns o = true → φ r ≤ φ o) :
    Calls Try.prog 76 #[.pointer (some ⟨g, 0, none⟩), .pointer (some ⟨b, r * 8, none⟩)] W fun e W' =>
      Only [b] W W' ∧ ((∃ t ns', e = .returned (.agg #[.int .i64 (min t.size 4001), .int .i64 t.depth]) ∧ Bl tm fs h r t ∧ ML w0 w base g bv b c n0 tm fs h ν n ns' W' ∧ Le8 ns ns' ∧ t.depth ≤ (mcnt n0 ns' : Int) + 1) ∨ (e = .panicked misfit ∧ ∀ φ, ¬ Rank n0 tm fs h φ)) := by
  have hb1 := below_box W (.cells #[.int .i64 0, .int .i64 0] 87)
  have hM1 := hM.keep hb1
  have hrl : r < ns.length := by rw [hM.gr.len]; exact hr
  obtain ⟨b', c', e, hbl, hf⟩ := hM1.gat.field hrl
  cases e
  have x2 := hf 2 _ rfl
  obtain ⟨sa, sc, hsl, l1, l2⟩ := (hM.gat.args ns[r] (List.getElem_mem hrl)).slice
  rw [hsl] at x2
  obtain ⟨tr, _⟩ := hM.gr.nd r hrl
  rw [tr] at x2 l1
  have h16 : (tm r).args.length ≤ 16 := by
    have := hS.shp r hr
    cases hv : uvar (tm r) with
    | true => rw [(shape_var this hv).1]; simp
    | false => exact (shape_fn this hv).2.1
  have H0 : Hid (AI w0 w base g bv b c n0 tm fs h ν n ns (W.alloc (.cells #[.int .i64 0, .int .i64 0] 87)) r 0 [] ns (W.alloc (.cells #[.int .i64 0, .int .i64 0] 87))) := ⟨rfl, (fun l hl => by cases hl), hM1, Le8.refl _, Only.refl _ _, by simp⟩
  have HWW := hid hM.only.size
  have HH : Hid (r < n0 ∧ h r = r ∧ lft n0 h ns ≤ N ∧ (∀ φ, Rank n0 tm fs h φ → ∀ o, o < n0 → opn ns o = true → φ r ≤ φ o) ∧ MS w0 w base g bv b c a bt n0 tm fs h ν n ∧ ExtP w0 w base g bv b c n0 tm fs h ν n N ∧ b < W.heap.size ∧ Below W.heap.size W (W.alloc (.cells #[.int .i64 0, .int .i64 0] 87))) := ⟨hr, hrr, hN, hP, hS, IH, Nat.lt_of_lt_of_le hS.lb hM.only.size, hb1⟩
  clear hM hM1 hf hsl tr hP IH hb1 hS hN hrr
  go_enter Try.func76, Try.ntmps76
  go_wp2
  go_loopw [5, 6, 15] (fun v5 v6 v15 wr => ∃ (k : Nat) (ts : List T) (ns' : List Nd), v15 = .int .i64 k ∧ k ≤ (tm r).args.length ∧ v5 = .int .i64 (szs ts) ∧ v6 = .int .i64 (dps ts) ∧ Hid (AI w0 w base g bv b c n0 tm fs h ν n ns (W.alloc (.cells #[.int .i64 0, .int .i64 0] 87)) r k ts ns' wr)) (fun _ _ v15 _ => (tm r).args.length - (intOf v15).toNat)
  case atStart => exact ⟨0, [], ns, rfl, Nat.zero_le _, rfl, rfl, H0.out⟩
  case round =>
    obtain ⟨k, ts, ns', rfl, hk, rfl, rfl, HA⟩ := hrel
    obtain ⟨z1, z2⟩ := szs_bound ts
    have z3 := dps_ge ts
    have z4 : dps ts ≤ 8000 := by have h1 : dps ts ≤ _ := HA.out.dep; have h2 := mcnt_le n0 ns'; have := HH.out.2.2.2.2.1.small; omega
    rw [HA.out.len] at z2
    obtain ⟨s, hs⟩ : ∃ s, szs ts = s := ⟨_, rfl⟩
    obtain ⟨d, hd⟩ : ∃ d, dps ts = d := ⟨_, rfl⟩
    have HSD := hid (And.intro hs hd)
    rw [hs] at z1 z2 ⊢
    rw [hd] at z3 z4 ⊢
    clear hs hd
    by_cases hlt : k < (tm r).args.length
    · have hrl' : r < ns'.length := by rw [HA.out.ml.gr.len]; exact HH.out.1
      obtain ⟨b', c', e, _, hf⟩ := HA.out.ml.gat.field hrl'
      cases e
      have x3 := hf 3 _ rfl
      obtain ⟨_, fr⟩ := HA.out.ml.gr.nd r hrl'
      rw [fr] at x3
      obtain ⟨hk1, _⟩ := HH.out.2.2.2.2.1.lay.kids r HH.out.1 k hlt
      have hk8 : fs r + k < 8000 := by have := HH.out.2.2.2.2.1.small; omega
      have hx : Calls Try.prog 56 #[.pointer (some ⟨g, 0, none⟩), .int .i64 ((fs r : Int) + (k : Int))] wr fun e W' => EAns w0 w base g bv b c n0 tm fs h ν n ns' wr (fs r + k) e W' := by
        have := HH.out.2.2.2.2.2.1 ns' wr (fs r + k) hk1 HA.out.ml (Nat.le_trans HA.out.le.lft HH.out.2.2.1) (fun φ hφ o ho hop => by
          have h1 := HH.out.2.2.2.1 φ hφ o ho (by rw [← HA.out.le.op o]; exact hop)
          have h2 := hφ.fall r HH.out.1 k (by rw [HH.out.2.1]; exact hlt)
          rw [HH.out.2.1] at h2
          omega)
        rw [Int.natCast_add] at this
        exact this
      clear hf fr hk1
      have HON : Hid (∀ W2, Only [b] wr W2 → Only [b] W W2) := fun W2 ho => ((Only.of_below HH.out.2.2.2.2.2.2.2).trans HA.out.only (fun r hr => .inl hr)).trans ho (fun r hr => .inl hr)
      go_wp2_with fail
      refine hx.mono ?_
      rintro e W2 ⟨ho2, (⟨t, ns2, rfl, hbl2, hml2, hle2, hdep2⟩ | ⟨rfl, hno⟩)⟩
      · have HE : Hid (∀ W3, Below W2.heap.size W2 W3 → AI w0 w base g bv b c n0 tm fs h ν n ns (W.alloc (.cells #[.int .i64 0, .int .i64 0] 87)) r (k + 1) (ts ++ [t]) ns2 W3) := fun W3 hb3 => by
          refine ⟨by rw [List.length_append, HA.out.len]; rfl, fun l hl => ?_, hml2.keep hb3, HA.out.le.trans hle2, (HA.out.only.trans ho2 (fun r hr => .inl hr)).trans (Only.of_below hb3) (fun r hr => .inl hr), ?_⟩
          · by_cases e : l < ts.length
            · rw [List.getElem_append_left e]; exact HA.out.bl l e
            · rw [List.length_append] at hl
              have e2 : l = k := by have := HA.out.len; simp at hl; omega
              subst e2
              rw [List.getElem_append_right (by omega)]
              simpa using hbl2
          · show dps (ts ++ [t]) ≤ _
            rw [dps_snoc]
            have h1 : dps ts ≤ _ := HA.out.dep
            have h2 := hle2.mcnt (n := n0)
            omega
        have HV : Hid (szs (ts ++ [t]) = s + min t.size 4001 ∧ dps (ts ++ [t]) = max d t.depth) := ⟨by rw [szs_snoc, HSD.out.1], by rw [dps_snoc, HSD.out.2]⟩
        have y1 := size_ge t
        have y2 : t.depth ≤ 8000 := by have h2 := mcnt_le n0 ns2; have := HH.out.2.2.2.2.1.small; omega
        have y3 : 0 ≤ t.depth := by rw [T.depth_eq]; have := fmax_ge (t.args.map T.depth) 0; omega
        obtain ⟨s2, hs2⟩ : ∃ s2, min t.size 4001 = s2 := ⟨_, rfl⟩
        have y4 : 1 ≤ s2 ∧ s2 ≤ 4001 := by omega
        obtain ⟨y5, y6⟩ := y4
        rw [hs2] at HV ⊢
        obtain ⟨d2, hd2⟩ : ∃ d2, t.depth = d2 := ⟨_, rfl⟩
        rw [hd2] at HV y2 y3 ⊢
        clear hs2 hd2 y1 hbl2 hml2 hle2 hdep2 hx
        go_wp2
        obtain ⟨W4, hW4⟩ : ∃ X, W2.alloc (.cells #[.int .i64 s2, .int .i64 d2] 87) = X := ⟨_, rfl⟩
        have c0 : W4.cell? ⟨W2.heap.size, 0, none⟩ = some (.int .i64 s2) := by rw [← hW4, World.cell?_alloc_new]; rfl
        have c1 : W4.cell? ⟨W2.heap.size, 1, none⟩ = some (.int .i64 d2) := by rw [← hW4, World.cell?_alloc_new]; rfl
        have HB4 : Hid (Below W2.heap.size W2 W4) := by show Below _ _ _; rw [← hW4]; exact below_box W2 _
        rw [hW4]
        clear hW4
        go_quiet (fail)
        have HE5 : Hid (AI w0 w base g bv b c n0 tm fs h ν n ns (W.alloc (.cells #[.int .i64 0, .int .i64 0] 87)) r (k + 1) (ts ++ [t]) ns2 (W4.drewN nq)) := HE.out _ (below_drewN HB4.out nq)
        go_wp2
        go_roundw
        case rel => exact ⟨k + 1, ts ++ [t], ns2, by go_num, by omega, by rw [HV.out.1], by rw [HV.out.2], HE5.out⟩
        case measure => simp [intOf]; omega
      · exact ⟨rfl, HON.out W2 ho2, .inr ⟨rfl, hno⟩⟩
    · have hbx : wr.heap[W.heap.size]? = some (.cells #[.int .i64 0, .int .i64 0] 87 (0, 0)) := (HA.out.only.block W.heap.size (by simp) (by have := HH.out.2.2.2.2.2.2.1; simp; omega)).trans (MapKept.heap_alloc W (.cells #[.int .i64 0, .int .i64 0] 87)).1
      have r0 : wr.cell? ⟨W.heap.size, 0, none⟩ = some (.int .i64 0) := by simp [World.cell?, hbx]
      have r1 : wr.cell? ⟨W.heap.size, 1, none⟩ = some (.int .i64 0) := by simp [World.cell?, hbx]
      have f0 : wr.frozen? ⟨W.heap.size, 0, none⟩ = false := by simp [World.frozen?, hbx]
      have f1 : wr.frozen? ⟨W.heap.size, 1, none⟩ = false := by simp [World.frozen?, hbx]
      have HBX := hid hbx
      clear hbx
      have HWL : Hid (w.heap.size ≤ W.heap.size) := HWW.out
      go_wp2
      refine bodyPost_ret (v := .agg #[.int .i64 (min s 4001), .int .i64 (d + 1)]) (by simp [results, Try.results76, go_sem, *]) rfl ?_
      have hS := HH.out.2.2.2.2.1
      have hON : Only [b] W wr := (Only.of_below HH.out.2.2.2.2.2.2.2).trans HA.out.only (fun r hr => .inl hr)
      refine ⟨(hON.setBox (Nat.le_refl _) _ _).setBox (Nat.le_refl _) _ _, .inl ⟨.mk (tm r).v (tm r).fn ts, ns', ?_, ?_, (HA.out.ml.setBox hS.lb hS.lg hS.lv HWL.out _ _).setBox hS.lb hS.lg hS.lv HWL.out _ _, HA.out.le, ?_⟩⟩
      · have e1 : min (T.mk (tm r).v (tm r).fn ts).size 4001 = min s 4001 := by
          rw [T.size_eq, ← HSD.out.1]
          exact (cap_sum ts (fun t _ => size_ge t)).symm
        have e2 : (T.mk (tm r).v (tm r).fn ts).depth = d + 1 := by rw [T.depth_eq, ← HSD.out.2]; rfl
        rw [e1, e2]
      · have hb := Bl.mk (tm := tm) (fs := fs) (h := h) r ts (by rw [HH.out.2.1, HA.out.len]; omega) (fun l hl => by rw [HH.out.2.1]; exact HA.out.bl l hl)
        rw [HH.out.2.1] at hb
        exact hb
      · rw [T.depth_eq]
        have : dps ts ≤ _ := HA.out.dep
        show dps ts + 1 ≤ _
        omega

end Go.Proofs.Ytblfbmdnkgebdaa

/-
  graph.extent.
-/
namespace Go.Proofs.Ytblfbmdnkgebdaa
open Go.RowKit Go.Maps

theorem mcnt_set {n : Nat} {ns : List Nd} {r : Nat} (hr : r < ns.length) (hrn : r < n) {m : Nd} (h0 : szn ns r = 0) (hm : m.size ≠ 0) : mcnt n ns < mcnt n (ns.set r m) := by
  refine countP_lt (fun i _ hp => ?_) ⟨r, List.mem_range.2 hrn, ?_, by simp [h0]⟩
  · rw [decide_eq_true_eq] at hp ⊢
    rw [(get_set hr m i).2.1]
    split
    · exact hm
    · exact hp
  · rw [decide_eq_true_eq, (get_set hr m r).2.1, if_pos rfl]; exact hm
theorem lft_open {n : Nat} {h : Nat → Nat} {ns : List Nd} {r : Nat} (hr : r < ns.length) (hrn : r < n) (hrr : h r = r) (ho : opn ns r = false) (h0 : szn ns r = 0) {m : Nd} (hm : m.op = true) (hs : m.size = ns[r].size) : lft n h (ns.set r m) < lft n h ns := by
  refine countP_lt (fun i _ hp => ?_) ⟨r, List.mem_range.2 hrn, by simp [hrr, ho, h0], ?_⟩
  · rw [(get_set hr m i).1, (get_set hr m i).2.1] at hp
    by_cases e : i = r
    · subst e
      simp [hm] at hp
    · rw [if_neg e, if_neg e] at hp
      exact hp
  · rw [(get_set hr m r).1, if_pos rfl, hm]
    simp

section
variable {w0 w : World} {base g bv b c : Nat} {a bt : T} {n0 : Nat} {tm : Nat → T} {fs h : Nat → Nat} {ν : Nv} {n : Nat} {ns ns' : List Nd} {W W' : World}

/-- Node r is opened. -/
theorem ML.opened (H : ML w0 w base g bv b c n0 tm fs h ν n ns W) {r : Nat} (hr : r < ns.length) (q : Bool) : ML w0 w base g bv b c n0 tm fs h ν n (ns.set r { ns[r] with op := q }) (W.setCell ⟨b, r * 8 + 5, none⟩ (.bool q)) := by
  refine H.write hr (by omega) rfl rfl rfl rfl rfl (fun i hi e => ?_)
  have e1 : ∀ i, szn (ns.set r { ns[r] with op := q }) i = szn ns i := fun i => by
    rw [(get_set hr _ i).2.1]
    split
    · rename_i e; subst e; rw [szn_eq hr]
    · rfl
  have e2 : ∀ i, dpn (ns.set r { ns[r] with op := q }) i = dpn ns i := fun i => by
    rw [(get_set hr _ i).2.2]
    split
    · rename_i e; subst e; rw [dpn_eq hr]
    · rfl
  have e3 : mcnt n0 (ns.set r { ns[r] with op := q }) = mcnt n0 ns := by unfold mcnt; simp only [e1]
  rw [e1] at e ⊢
  rw [e2, e3]
  exact H.ms i hi e

/-- Node r is measured. -/
theorem ML.measured (H : ML w0 w base g bv b c n0 tm fs h ν n ns W) {r : Nat} (hr : r < ns.length) (h0 : szn ns r = 0) {t : T} (hb : Bl tm fs h r t) (hd : t.depth ≤ (mcnt n0 ns : Int) + 1) : ML w0 w base g bv b c n0 tm fs h ν n (ns.set r { ns[r] with size := min t.size 4001, depth := t.depth }) ((W.setCell ⟨b, r * 8 + 6, none⟩ (.int .i64 (min t.size 4001))).setCell ⟨b, r * 8 + 7, none⟩ (.int .i64 t.depth)) := by
  have hrn : r < n0 := by rw [← H.gr.len]; exact hr
  have hm := mcnt_set (n := n0) hr hrn (m := { ns[r] with size := min t.size 4001, depth := t.depth }) h0 (by have := size_ge t; show min t.size 4001 ≠ 0; omega)
  have hA := H.gat.args ns[r] (List.getElem_mem hr)
  have g1 := H.gat.write hr (j := 6) (by omega) (u := .int .i64 (min t.size 4001)) (m := { ns[r] with size := min t.size 4001 }) rfl hA
  have hr1 : r < (ns.set r { ns[r] with size := min t.size 4001 }).length := by simpa using hr
  have e0 : (ns.set r { ns[r] with size := min t.size 4001 })[r] = { ns[r] with size := min t.size 4001 } := by simp
  rw [show ns.length = (ns.set r { ns[r] with size := min t.size 4001 }).length by simp] at g1
  have g2 := g1.write hr1 (j := 7) (by omega) (u := .int .i64 t.depth) (m := { ns[r] with size := min t.size 4001, depth := t.depth }) (by rw [e0]; rfl) hA
  rw [List.set_set] at g2
  refine ⟨by rw [List.length_set] at g2 ⊢; exact g2, H.gr.setm hr rfl rfl rfl, fun i hi e => ?_, ?_⟩
  · rw [(get_set hr _ i).2.1] at e ⊢
    rw [(get_set hr _ i).2.2]
    by_cases ei : i = r
    · subst ei
      rw [if_pos rfl, if_pos rfl]
      exact ⟨t, hb, rfl, rfl, by omega⟩
    · rw [if_neg ei] at e ⊢
      rw [if_neg ei]
      obtain ⟨t', k1, k2, k3, k4⟩ := H.ms i hi e
      exact ⟨t', k1, k2, k3, by omega⟩
  · exact (H.only.trans (Only.setB (Below.refl _ _) b _ _) (fun r hr => .inl hr)).trans (Only.setB (Below.refl _ _) b _ _) (fun r hr => .inl hr)

theorem ML.cells (H : ML w0 w base g bv b c n0 tm fs h ν n ns W) {r : Nat} (hr : r < n0) : W.cell? ⟨g, 0, none⟩ = some (.slice (some ⟨b, 0, none⟩) n0 c) ∧ W.cell? ⟨b, r * 8 + 5, none⟩ = some (.bool (opn ns r)) ∧ W.cell? ⟨b, r * 8 + 6, none⟩ = some (.int .i64 (szn ns r)) ∧ W.cell? ⟨b, r * 8 + 7, none⟩ = some (.int .i64 (dpn ns r)) ∧ W.frozen? ⟨b, r * 8 + 5, none⟩ = false ∧ W.frozen? ⟨b, r * 8 + 6, none⟩ = false ∧ W.frozen? ⟨b, r * 8 + 7, none⟩ = false := by
  have hr' : r < ns.length := by rw [H.gr.len]; exact hr
  obtain ⟨b', c', e, _, hf⟩ := H.gat.field hr'
  cases e
  rw [opn_eq hr', szn_eq hr', dpn_eq hr']
  refine ⟨?_, hf 5 _ rfl, hf 6 _ rfl, hf 7 _ rfl, H.gat.row.frozenAt _, H.gat.row.frozenAt _, H.gat.row.frozenAt _⟩
  rw [← H.gr.len]
  simp [World.cell?, H.gat.box]
end

end Go.Proofs.Ytblfbmdnkgebdaa

/-
  graph.extent: the walk.
-/
namespace Go.Proofs.Ytblfbmdnkgebdaa
open Go.RowKit Go.Maps

/-- The graph behind a head. -/
def SM (w0 w : World) (base g bv b c : Nat) (n0 : Nat) (tm : Nat → T) (fs h : Nat → Nat) (ν : Nv) (n : Nat) (ns : List Nd) (W X : World) : Prop := ∃ ns', ML w0 w base g bv b c n0 tm fs h ν n ns' X ∧ Le8 ns ns' ∧ (∀ i, szn ns' i = szn ns i) ∧ Only [b] W X

set_option maxRecDepth 100000 in
set_option maxHeartbeats 4000000 in
theorem ext_step (w0 w : World) (base g bv b c : Nat) (a bt : T) (n0 : Nat) (tm : Nat → T) (fs h : Nat → Nat) (ν : Nv) (n : Nat) (hS : MS w0 w base g bv b c a bt n0 tm fs h ν n) (N : Nat) (IH : ∀ M, M < N → ExtP w0 w base g bv b c n0 tm fs h ν n M) : ExtP w0 w base g bv b c n0 tm fs h ν n N := by
  intro ns W i hi hM hN hP
  obtain ⟨r, hr⟩ : ∃ r, h i = r := ⟨_, rfl⟩
  have hrn : r < n0 := by rw [← hr]; exact hS.sol.lt i hi
  have hrr : h r = r := by rw [← hr]; exact hS.sol.idem i hi
  have hb1 := below_box W (.cells #[.int .i64 0, .int .i64 0] 87)
  have hbl : b < W.heap.size := Nat.lt_of_lt_of_le hS.lb hM.only.size
  have hM1 := hM.keep hb1
  obtain ⟨W1, hW1⟩ : ∃ X, W.alloc (.cells #[.int .i64 0, .int .i64 0] 87) = X := ⟨_, rfl⟩
  have hbx1 : W1.heap[W.heap.size]? = some (.cells #[.int .i64 0, .int .i64 0] 87 (0, 0)) := by rw [← hW1]; exact (MapKept.heap_alloc W (.cells #[.int .i64 0, .int .i64 0] 87)).1
  have hs1 : W1.heap.size = W.heap.size + 1 := by rw [← hW1]; simp
  rw [hW1] at hb1 hM1
  have HBX : Hid (∀ X, Only [b] W1 X → X.heap[W.heap.size]? = some (.cells #[.int .i64 0, .int .i64 0] 87 (0, 0))) := fun X hX => (hX.block _ (by omega) (by simp; omega)).trans hbx1
  have HON : Hid (∀ X, Only [b] W1 X → Only [b] W X) := fun X hX => (Only.of_below hb1).trans hX (fun r hr => .inl hr)
  have hd : SM w0 w base g bv b c n0 tm fs h ν n ns W1 W1.drew := ⟨ns, hM1.keep ((Below.refl _ _).drew), Le8.refl _, fun _ => rfl, Only.of_below ((Below.refl _ _).drew)⟩
  have HC : Hid (∀ X, SM w0 w base g bv b c n0 tm fs h ν n ns W1 X → Calls Try.prog 54 #[.pointer (some ⟨g, 0, none⟩), .int .i64 (i : Int)] X fun e X' => e = .returned (.int .i64 (r : Int)) ∧ SM w0 w base g bv b c n0 tm fs h ν n ns W1 X') := fun X ⟨ns', k1, k2, k3, k4⟩ => by
    refine (k1.head_any hS.small hi).mono ?_
    rintro e X' ⟨rfl, ns2, l1, l2, l3, l4⟩
    refine ⟨by rw [hr], ns2, l1, k2.trans l2, fun j => (l3 j).trans (k3 j), k4.trans ⟨l4.os, l4.tape, l4.output, by rw [l4.size]; exact Nat.le_refl _, fun k _ hn => l4.block k (by simpa using hn)⟩ (fun r hr => .inl hr)⟩
  have HCEL : Hid (∀ X, SM w0 w base g bv b c n0 tm fs h ν n ns W1 X → X.cell? ⟨g, 0, none⟩ = some (.slice (some ⟨b, 0, none⟩) n0 c)) := fun X ⟨ns', k1, _⟩ => (k1.cells hrn).1
  have HH : Hid (i < n0 ∧ h i = r ∧ r < n0 ∧ h r = r ∧ lft n0 h ns ≤ N ∧ (∀ φ, Rank n0 tm fs h φ → ∀ o, o < n0 → opn ns o = true → φ i < φ o) ∧ MS w0 w base g bv b c a bt n0 tm fs h ν n ∧ (∀ M, M < N → ExtP w0 w base g bv b c n0 tm fs h ν n M) ∧ b < W.heap.size ∧ w.heap.size ≤ W.heap.size) := ⟨hi, hr, hrn, hrr, hN, hP, hS, IH, hbl, hM.only.size⟩
  have HW1 := hid hW1
  have i0 : (0 : Int) ≤ (r : Int) := Int.natCast_nonneg r
  have i1 : (r : Int) < (n0 : Int) := by omega
  have hc1 := HC.out _ hd
  clear hP hN hM hM1 hb1 hbx1 hs1 hrr hr hi IH hS hrn hbl hW1
  go_enter Try.func56, Try.ntmps56
  go_upto_region 1 with fail
  rw [HW1.out]
  go_region_held3 (fun X => X.cell? ⟨g, 0, none⟩ = some (.slice (some ⟨b, 0, none⟩) n0 c)) (first | exact HCEL.out _ hs2 | exact HCEL.out _ hd) (first | (go_at_call 54; refine hc1.mono ?_; rintro e W2 ⟨rfl, hs2⟩; clear hc1))
  obtain ⟨ns2, m2, le2, sz2, on2⟩ := hs2
  obtain ⟨g0, x5, x6, x7, z5, z6, z7⟩ := m2.cells HH.out.2.2.1
  have hr2 : r < ns2.length := by rw [m2.gr.len]; exact HH.out.2.2.1
  have hbx2 := HBX.out W2 on2
  have r0 : W2.cell? ⟨W.heap.size, 0, none⟩ = some (.int .i64 0) := by simp [World.cell?, hbx2]
  have r1 : W2.cell? ⟨W.heap.size, 1, none⟩ = some (.int .i64 0) := by simp [World.cell?, hbx2]
  have f0 : W2.frozen? ⟨W.heap.size, 0, none⟩ = false := by simp [World.frozen?, hbx2]
  have f1 : W2.frozen? ⟨W.heap.size, 1, none⟩ = false := by simp [World.frozen?, hbx2]
  have HM2 := hid m2
  have HO2 := hid on2
  have HLE := hid le2
  have HSZ := hid sz2
  clear hd m2 on2 hbx2 le2 sz2
  cases hop : opn ns2 r with
  | true =>
    rw [hop] at x5
    have HP : Hid (EAns w0 w base g bv b c n0 tm fs h ν n ns W i (.panicked misfit) W2) := by
      refine ⟨HON.out W2 HO2.out, .inr ⟨rfl, fun φ hφ => ?_⟩⟩
      have h1 := HH.out.2.2.2.2.2.1 φ hφ r HH.out.2.2.1 (by rw [← HLE.out.op r]; exact hop)
      have h2 := hφ.cls i HH.out.1
      rw [HH.out.2.1] at h2
      omega
    clear hop
    go_wp2
    exact ⟨rfl, HP.out⟩
  | false =>
    rw [hop] at x5
    by_cases hz : szn ns2 r = 0
    · rw [hz] at x6
      have m3 := HM2.out.opened hr2 true
      have hl3 := lft_open hr2 HH.out.2.2.1 HH.out.2.2.2.1 hop hz (m := { ns2[r] with op := true }) rfl rfl
      have hl2 := HLE.out.lft (n := n0) (h := h)
      have hop3 : ∀ j, opn (ns2.set r { ns2[r] with op := true }) j = if j = r then true else opn ns2 j := fun j => (get_set hr2 _ j).1
      have hA := around_any w0 w base g bv b c a bt n0 tm fs h ν n HH.out.2.2.2.2.2.2.1 _ (HH.out.2.2.2.2.2.2.2.1 (lft n0 h (ns2.set r { ns2[r] with op := true })) (by have := HH.out.2.2.2.2.1; omega)) _ _ r HH.out.2.2.1 HH.out.2.2.2.1 m3 (Nat.le_refl _) (fun φ hφ o ho hoo => by
        rw [hop3 o] at hoo
        by_cases eo : o = r
        · subst eo; exact Nat.le_refl _
        · rw [if_neg eo] at hoo
          have h1 := HH.out.2.2.2.2.2.1 φ hφ o ho (by rw [← HLE.out.op o]; exact hoo)
          have h2 := hφ.cls i HH.out.1
          rw [HH.out.2.1] at h2
          omega)
      have HST : Hid (opn ns2 r = false ∧ szn ns2 r = 0 ∧ Only [b] W1 (W2.setCell ⟨b, r * 8 + 5, none⟩ (.bool true))) := ⟨hop, hz, HO2.out.trans (Only.setB (Below.refl _ _) b _ _) (fun r hr => .inl hr)⟩
      clear hop hz m3 hl3 hl2 hop3 x7 r0 r1 f0 f1
      go_wp2_with fail
      refine hA.mono ?_
      clear hA
      rintro e W4 ⟨o4, (⟨t, ns4, rfl, hb4, m4, le4, dep4⟩ | ⟨rfl, hno⟩)⟩
      · have hr4 : r < ns4.length := by rw [m4.gr.len]; exact HH.out.2.2.1
        have hz4 : szn ns4 r = 0 := by
          rw [le4.held r (by rw [(get_set hr2 _ r).1, if_pos rfl]), (get_set hr2 _ r).2.1, if_pos rfl]
          show ns2[r].size = 0
          rw [← szn_eq hr2]; exact HST.out.2.1
        have m5 := m4.measured hr4 hz4 hb4 dep4
        have hr5 : r < (ns4.set r { ns4[r] with size := min t.size 4001, depth := t.depth }).length := by simpa using hr4
        have m6 := m5.opened hr5 false
        obtain ⟨_, y5, y6, y7, u5, u6, u7⟩ := m4.cells HH.out.2.2.1
        have o5 : Only [b] W1 W4 := HST.out.2.2.trans o4 (fun r hr => .inl hr)
        have hbx4 := HBX.out W4 o5
        have r0 : W4.cell? ⟨W.heap.size, 0, none⟩ = some (.int .i64 0) := by simp [World.cell?, hbx4]
        have r1 : W4.cell? ⟨W.heap.size, 1, none⟩ = some (.int .i64 0) := by simp [World.cell?, hbx4]
        have f0 : W4.frozen? ⟨W.heap.size, 0, none⟩ = false := by simp [World.frozen?, hbx4]
        have f1 : W4.frozen? ⟨W.heap.size, 1, none⟩ = false := by simp [World.frozen?, hbx4]
        have hnb : W.heap.size ≠ b := by have := HH.out.2.2.2.2.2.2.2.2.1; omega
        have HE : Hid (∃ ns6, ML w0 w base g bv b c n0 tm fs h ν n ns6 (((W4.setCell ⟨b, r * 8 + 6, none⟩ (.int .i64 (min t.size 4001))).setCell ⟨b, r * 8 + 7, none⟩ (.int .i64 t.depth)).setCell ⟨b, r * 8 + 5, none⟩ (.bool false)) ∧ Le8 ns ns6 ∧ t.depth ≤ (mcnt n0 ns6 : Int) ∧ Bl tm fs h i t) := by
          refine ⟨_, m6, ?_, ?_, hb4.cls (by rw [HH.out.2.2.2.1, HH.out.2.1])⟩
          · have key : ∀ j, opn (List.set (ns4.set r { ns4[r] with size := min t.size 4001, depth := t.depth }) r { (ns4.set r { ns4[r] with size := min t.size 4001, depth := t.depth })[r] with op := false }) j = (if j = r then false else opn ns4 j) ∧ szn (List.set (ns4.set r { ns4[r] with size := min t.size 4001, depth := t.depth }) r { (ns4.set r { ns4[r] with size := min t.size 4001, depth := t.depth })[r] with op := false }) j = (if j = r then min t.size 4001 else szn ns4 j) := fun j => by
              rw [(get_set hr5 _ j).1, (get_set hr5 _ j).2.1, (get_set hr4 _ j).1, (get_set hr4 _ j).2.1]
              by_cases e : j = r
              · simp [e]
              · simp [e]
            have op4 : ∀ j, opn ns4 j = if j = r then true else opn ns2 j := fun j => (le4.op j).trans ((get_set hr2 _ j).1)
            have sz3 : ∀ j, szn (ns2.set r { ns2[r] with op := true }) j = szn ns2 j := fun j => by
              rw [(get_set hr2 _ j).2.1]
              split
              · rename_i e; subst e; rw [szn_eq hr2]
              · rfl
            refine ⟨fun j => ?_, fun j e => ?_, fun j e => ?_⟩
            · rw [(key j).1, op4 j, ← HLE.out.op j]
              by_cases ej : j = r
              · subst ej; simp [HST.out.1]
              · simp [ej]
            · have e2 : szn ns2 j ≠ 0 := by rw [HSZ.out]; exact e
              have ej : j ≠ r := fun ej => by subst ej; exact e2 HST.out.2.1
              rw [(key j).2, if_neg ej, le4.sz j (by rw [sz3]; exact e2), sz3, HSZ.out]
            · have ej : j ≠ r := fun ej => by subst ej; have := HST.out.1; rw [HLE.out.op] at this; rw [this] at e; cases e
              rw [(key j).2, if_neg ej, le4.held j (by rw [(get_set hr2 _ j).1, if_neg ej, HLE.out.op]; exact e), sz3, HSZ.out]
          · have h1 := mcnt_set (n := n0) hr4 HH.out.2.2.1 (m := { ns4[r] with size := min t.size 4001, depth := t.depth }) hz4 (by have := size_ge t; show min t.size 4001 ≠ 0; omega)
            have h2 : mcnt n0 (List.set (ns4.set r { ns4[r] with size := min t.size 4001, depth := t.depth }) r { (ns4.set r { ns4[r] with size := min t.size 4001, depth := t.depth })[r] with op := false }) = mcnt n0 (ns4.set r { ns4[r] with size := min t.size 4001, depth := t.depth }) := by
              unfold mcnt
              congr 1
              funext j
              rw [(get_set hr5 _ j).2.1]
              split
              · rename_i e; subst e; rw [szn_eq hr5]
              · rfl
            rw [h2]
            omega
        have HO6 : Hid (Only [b] W1 (((W4.setCell ⟨b, r * 8 + 6, none⟩ (.int .i64 (min t.size 4001))).setCell ⟨b, r * 8 + 7, none⟩ (.int .i64 t.depth)).setCell ⟨b, r * 8 + 5, none⟩ (.bool false))) := ((o5.trans (Only.setB (Below.refl _ _) b _ _) (fun r hr => .inl hr)).trans (Only.setB (Below.refl _ _) b _ _) (fun r hr => .inl hr)).trans (Only.setB (Below.refl _ _) b _ _) (fun r hr => .inl hr)
        obtain ⟨s2, hs2⟩ : ∃ s, min t.size 4001 = s := ⟨_, rfl⟩
        obtain ⟨d2, hd2⟩ : ∃ d, t.depth = d := ⟨_, rfl⟩
        have HSD : Hid (min t.size 4001 = s2 ∧ t.depth = d2) := ⟨hs2, hd2⟩
        rw [hs2, hd2] at HE HO6 ⊢
        clear m4 m5 m6 hb4 le4 dep4 o4 o5 hbx4 hz4 hs2 hd2 g0 x5 x6 z5 z6 z7 hr4 hr5 hr2
        go_wp2
        refine bodyPost_ret (v := .agg #[.int .i64 s2, .int .i64 d2]) (by simp [results, Try.results56, go_sem, *]) rfl ?_
        have hS := HH.out.2.2.2.2.2.2.1
        have hwl := HH.out.2.2.2.2.2.2.2.2.2
        obtain ⟨ns6, k1, k2, k3, k4⟩ := HE.out
        exact ⟨((HON.out _ HO6.out).setBox (Nat.le_refl _) _ _).setBox (Nat.le_refl _) _ _, .inl ⟨t, ns6, by rw [HSD.out.1, HSD.out.2], k4, (k1.setBox hS.lb hS.lg hS.lv hwl _ _).setBox hS.lb hS.lg hS.lv hwl _ _, k2, by rw [HSD.out.2]; exact k3⟩⟩
      · exact ⟨rfl, HON.out W4 (HST.out.2.2.trans o4 (fun r hr => .inl hr)), .inr ⟨rfl, hno⟩⟩
    · have e0 : (szn ns2 r == 0) = false := by rw [beq_eq_false_iff_ne]; exact hz
      obtain ⟨t, hb, hsz, hdp, hm⟩ := HM2.out.ms r HH.out.2.2.1 hz
      have HF : Hid (Bl tm fs h i t ∧ szn ns2 r = min t.size 4001 ∧ dpn ns2 r = t.depth ∧ t.depth ≤ (mcnt n0 ns2 : Int)) := ⟨hb.cls (by rw [HH.out.2.2.2.1, HH.out.2.1]), hsz, hdp, hm⟩
      obtain ⟨s, hs⟩ : ∃ s, szn ns2 r = s := ⟨_, rfl⟩
      obtain ⟨d, hd⟩ : ∃ d, dpn ns2 r = d := ⟨_, rfl⟩
      rw [hs] at x6 HF e0
      rw [hd] at x7 HF
      clear hop hz hb hsz hdp hm hs hd
      go_wp2
      refine bodyPost_ret (v := .agg #[.int .i64 s, .int .i64 d]) (by simp [results, Try.results56, go_sem, *]) rfl ?_
      have hS := HH.out.2.2.2.2.2.2.1
      have hwl := HH.out.2.2.2.2.2.2.2.2.2
      refine ⟨((HON.out W2 HO2.out).setBox (Nat.le_refl _) _ _).setBox (Nat.le_refl _) _ _, .inl ⟨t, ns2, ?_, HF.out.1, (HM2.out.setBox hS.lb hS.lg hS.lv hwl _ _).setBox hS.lb hS.lg hS.lv hwl _ _, HLE.out, HF.out.2.2.2⟩⟩
      rw [HF.out.2.1, HF.out.2.2.1]

theorem ext_any (w0 w : World) (base g bv b c : Nat) (a bt : T) (n0 : Nat) (tm : Nat → T) (fs h : Nat → Nat) (ν : Nv) (n : Nat) (hS : MS w0 w base g bv b c a bt n0 tm fs h ν n) (N : Nat) : ExtP w0 w base g bv b c n0 tm fs h ν n N := by
  induction N using Nat.strongRecOn with
  | _ N ih => exact ext_step w0 w base g bv b c a bt n0 tm fs h ν n hS N ih

end Go.Proofs.Ytblfbmdnkgebdaa
