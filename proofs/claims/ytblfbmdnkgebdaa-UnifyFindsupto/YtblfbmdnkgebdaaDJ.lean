import Derived.Test.YtblfbmdnkgebdaaDD
import Derived.Test.YtblfbmdnkgebdaaGR

/-
  Asking: states of nodes; what is built of them.
-/
namespace Go.Proofs.Ytblfbmdnkgebdaa.Dn
open Go.RowKit Go.Maps

def zeros (st : Nat → Nat) (n : Nat) : Nat := (List.range n).countP fun i => decide (st i = 0)
def put1 (st : Nat → Nat) (p x : Nat) : Nat → Nat := fun i => if i = p then x else st i
theorem zeros_mono {st st' : Nat → Nat} {n : Nat} (h : ∀ i, st' i = 0 → st i = 0) : zeros st' n ≤ zeros st n :=
  List.countP_mono_left fun i _ h0 => decide_eq_true (h i (of_decide_eq_true h0))
theorem zeros_put {st : Nat → Nat} {n p : Nat} (hp : p < n) (h0 : st p = 0) : zeros (put1 st p 1) n < zeros st n := by
  have hle : ∀ i, put1 st p 1 i = 0 → st i = 0 := fun i h => by
    unfold put1 at h
    split at h
    · cases h
    · exact h
  have hno : put1 st p 1 p ≠ 0 := by simp [put1]
  unfold zeros
  have : ∀ (l : List Nat), p ∈ l → l.countP (fun i => decide (put1 st p 1 i = 0)) < l.countP (fun i => decide (st i = 0)) := by
    intro l
    induction l with
    | nil => intro h; cases h
    | cons x r ih =>
      intro hm
      have mono : r.countP (fun i => decide (put1 st p 1 i = 0)) ≤ r.countP (fun i => decide (st i = 0)) := List.countP_mono_left fun i _ h => decide_eq_true (hle i (of_decide_eq_true h))
      rw [List.countP_cons, List.countP_cons]
      rcases List.mem_cons.1 hm with rfl | hm
      · rw [if_neg (by simpa using hno), if_pos (by simpa using h0)]
        omega
      · have := ih hm
        by_cases h1 : put1 st p 1 x = 0
        · rw [if_pos (by simpa using h1), if_pos (by simpa using hle x h1)]
          omega
        · rw [if_neg (by simpa using h1)]
          omega
  exact this _ (List.mem_range.2 hp)

def putI (f : Nat → Int) (p : Nat) (x : Int) : Nat → Int := fun i => if i = p then x else f i
def twos (st : Nat → Nat) (n : Nat) : Nat := (List.range n).countP fun i => decide (st i = 2)
theorem twos_le (st : Nat → Nat) (n : Nat) : twos st n ≤ n := by
  have := List.countP_le_length (p := fun i => decide (st i = 2)) (l := List.range n)
  simpa [twos] using this
theorem twos_mono {st st' : Nat → Nat} {n : Nat} (h : ∀ i, st i = 2 → st' i = 2) : twos st n ≤ twos st' n :=
  List.countP_mono_left fun i _ h0 => decide_eq_true (h i (of_decide_eq_true h0))
theorem twos_put {st : Nat → Nat} {n p : Nat} (hp : p < n) (h1 : st p ≠ 2) : twos st n < twos (put1 st p 2) n :=
  countP_lt (fun i _ h => by
    have h := of_decide_eq_true h
    refine decide_eq_true ?_
    unfold put1
    split
    · rfl
    · exact h) ⟨p, List.mem_range.2 hp, by simp [put1], by simpa using h1⟩

/-- What is built of a node's class. -/
inductive Bn (N : List Nd) (ρ : Nat → Nat) : Nat → T → Prop
  | mk (i : Nat) (d : Nd) (ts : List T) (h : N[ρ i]? = some d) (hl : ts.length = d.args.length) (hk : ∀ k (h1 : k < ts.length) (h2 : k < d.args.length), Bn N ρ d.args[k] ts[k]) : Bn N ρ i (.mk d.v d.fn ts)

theorem Bn.one {N : List Nd} {ρ : Nat → Nat} {i : Nat} {t : T} (H : Bn N ρ i t) : ∀ {j : Nat} {t' : T}, ρ j = ρ i → Bn N ρ j t' → t = t' := by
  induction H with
  | mk i d ts h hl hk ih =>
    intro j t' e h'
    cases h' with
    | mk _ d' ts' h' hl' hk' =>
      rw [e, h] at h'
      cases h'
      have : ts = ts' := List.ext_getElem (by rw [hl, hl']) fun l h1 h2 => ih l h1 (by omega) rfl (hk' l h2 (by omega))
      rw [this]
theorem Bn.cls {N : List Nd} {ρ : Nat → Nat} {i j : Nat} {t : T} (H : Bn N ρ i t) (e : ρ j = ρ i) : Bn N ρ j t := by
  cases H with
  | mk _ d ts h hl hk => exact .mk j d ts (by rw [e]; exact h) hl hk

/-- A number for each class, that falls with each argument. -/
def Rk (N : List Nd) (ρ φ : Nat → Nat) : Prop := (∀ i j, ρ i = ρ j → φ i = φ j) ∧ ∀ (p : Nat) (d : Nd), N[p]? = some d → ∀ a ∈ d.args, φ a < φ p

/-- What is known is the depth and the size of what is built. -/
def Kn (N : List Nd) (ρ st : Nat → Nat) (dp sz : Nat → Int) : Prop :=
  ∀ i, i < N.length → st i = 2 → ∃ t, Bn N ρ i t ∧ dp i = t.depth ∧ sz i = min t.size 1000000 ∧ t.depth ≤ (twos st N.length : Int)

theorem Kn.one {N : List Nd} {ρ st : Nat → Nat} {dp sz : Nat → Int} {p : Nat} (h : Kn N ρ st dp sz) (h0 : st p = 0) : Kn N ρ (put1 st p 1) dp sz := by
  have tw : twos st N.length ≤ twos (put1 st p 1) N.length := twos_mono fun i hi => by
    unfold put1
    rw [if_neg (fun e => by rw [e, h0] at hi; cases hi)]
    exact hi
  intro i hl hi
  unfold put1 at hi
  split at hi
  · cases hi
  · obtain ⟨t, h1, h2, h3, h4⟩ := h i hl hi
    exact ⟨t, h1, h2, h3, by omega⟩

theorem Kn.done {N : List Nd} {ρ st : Nat → Nat} {dp sz : Nat → Int} {p : Nat} {d : Nd} (h : Kn N ρ st dp sz) (hp : N[p]? = some d) (hρ : ρ p = p) (h1 : st p = 1) {ts : List T} (hl : ts.length = d.args.length) (hb : ∀ k (q1 : k < d.args.length) (q2 : k < ts.length), Bn N ρ d.args[k] ts[k]) (hd : dps ts ≤ (twos st N.length : Int)) {x y : Int} (hx : x = dps ts + 1) (hy : y = min (1 + (ts.map T.size).sum) 1000000) : Kn N ρ (put1 st p 2) (putI dp p x) (putI sz p y) := by
  have hpl := (List.getElem?_eq_some_iff.1 hp).1
  have tw := twos_put (st := st) hpl (by omega)
  have e : (T.mk d.v d.fn ts).depth = x := by rw [T.depth_eq, hx]; show (dps ts) + 1 = _ ; rfl
  intro i hil hi
  by_cases ei : i = p
  · subst ei
    refine ⟨.mk d.v d.fn ts, .mk i d ts (by rw [hρ]; exact hp) hl (fun k q1 q2 => hb k q2 q1), by simp [putI, e], ?_, by omega⟩
    simp only [putI, if_pos]
    rw [hy, T.size_eq]
    show min (1 + _) _ = min (1 + _) _
    rfl
  · unfold put1 at hi
    rw [if_neg ei] at hi
    obtain ⟨t, g1, g2, g3, g4⟩ := h i hil hi
    exact ⟨t, g1, by simp only [putI, if_neg ei]; exact g2, by simp only [putI, if_neg ei]; exact g3, by omega⟩

/-- The measure in memory. -/
structure Mes (W1 W : World) (M gs gd gz n : Nat) (st : Nat → Nat) (dp sz : Nat → Int) : Prop where
  bel : Below W1.heap.size W1 W
  ge : W1.heap.size ≤ M ∧ W1.heap.size ≤ gs ∧ W1.heap.size ≤ gd ∧ W1.heap.size ≤ gz
  ne : M ≠ gs ∧ M ≠ gd ∧ M ≠ gz ∧ gs ≠ gd ∧ gs ≠ gz ∧ gd ≠ gz
  box : W.heap[M]? = some (.cells #[.slice (some ⟨gs, 0, none⟩) n n, .slice (some ⟨gd, 0, none⟩) n n, .slice (some ⟨gz, 0, none⟩) n n] 61 (0, 0))
  s : ∃ cs, W.heap[gs]? = some (.cells cs 3 (0, 0)) ∧ ∀ i, i < n → cs[i]? = some (.int .i64 (st i : Nat))
  d : ∃ cs, W.heap[gd]? = some (.cells cs 3 (0, 0)) ∧ ∀ i, i < n → cs[i]? = some (.int .i64 (dp i))
  z : ∃ cs, W.heap[gz]? = some (.cells cs 3 (0, 0)) ∧ ∀ i, i < n → cs[i]? = some (.int .i64 (sz i))
  st2 : ∀ i, st i ≤ 2

section
variable {W1 W W' : World} {M gs gd gz n : Nat} {st : Nat → Nat} {dp sz : Nat → Int}

theorem Mes.lt (h : Mes W1 W M gs gd gz n st dp sz) : M < W.heap.size ∧ gs < W.heap.size ∧ gd < W.heap.size ∧ gz < W.heap.size := by
  obtain ⟨_, h1, _⟩ := h.s
  obtain ⟨_, h2, _⟩ := h.d
  obtain ⟨_, h3, _⟩ := h.z
  exact ⟨(Array.getElem?_eq_some_iff.1 h.box).1, (Array.getElem?_eq_some_iff.1 h1).1, (Array.getElem?_eq_some_iff.1 h2).1, (Array.getElem?_eq_some_iff.1 h3).1⟩

theorem Mes.keep (h : Mes W1 W M gs gd gz n st dp sz) (hb : Below W.heap.size W W') : Mes W1 W' M gs gd gz n st dp sz := by
  obtain ⟨l1, l2, l3, l4⟩ := h.lt
  obtain ⟨cs, s1, s2⟩ := h.s
  obtain ⟨cd, d1, d2⟩ := h.d
  obtain ⟨cz, z1, z2⟩ := h.z
  exact ⟨h.bel.trans (hb.mono h.bel.size), h.ge, h.ne, (hb.block _ l1).trans h.box, ⟨cs, (hb.block _ l2).trans s1, s2⟩, ⟨cd, (hb.block _ l3).trans d1, d2⟩, ⟨cz, (hb.block _ l4).trans z1, z2⟩, h.st2⟩

theorem Mes.cells (h : Mes W1 W M gs gd gz n st dp sz) {i : Nat} (hi : i < n) : (W.cell? ⟨M, 0, none⟩ = some (.slice (some ⟨gs, 0, none⟩) n n) ∧ W.cell? ⟨M, 1, none⟩ = some (.slice (some ⟨gd, 0, none⟩) n n) ∧ W.cell? ⟨M, 2, none⟩ = some (.slice (some ⟨gz, 0, none⟩) n n)) ∧ (W.cell? ⟨gs, i, none⟩ = some (.int .i64 (st i : Nat)) ∧ W.frozen? ⟨gs, i, none⟩ = false) ∧ (W.cell? ⟨gd, i, none⟩ = some (.int .i64 (dp i)) ∧ W.frozen? ⟨gd, i, none⟩ = false) ∧ W.cell? ⟨gz, i, none⟩ = some (.int .i64 (sz i)) ∧ W.frozen? ⟨gz, i, none⟩ = false := by
  obtain ⟨cs, s1, s2⟩ := h.s
  obtain ⟨cd, d1, d2⟩ := h.d
  obtain ⟨cz, z1, z2⟩ := h.z
  have hy := d2 i hi
  have hz := z2 i hi
  exact ⟨⟨cell_at h.box rfl, cell_at h.box rfl, cell_at h.box rfl⟩, ⟨cell_at s1 (s2 i hi), by simp [World.frozen?, s1]⟩, ⟨cell_at d1 hy, by simp [World.frozen?, d1]⟩, cell_at z1 hz, by simp [World.frozen?, z1]⟩

theorem Mes.setS (h : Mes W1 W M gs gd gz n st dp sz) {p : Nat} (hp : p < n) (x : Nat) (hx : x ≤ 2) : Mes W1 (W.setCell ⟨gs, p, none⟩ (.int .i64 (x : Nat))) M gs gd gz n (put1 st p x) dp sz := by
  obtain ⟨cs, s1, s2⟩ := h.s
  obtain ⟨cd, d1, d2⟩ := h.d
  obtain ⟨cz, z1, z2⟩ := h.z
  obtain ⟨n1, n2, n3, n4, n5, n6⟩ := h.ne
  have ho : ∀ k, k ≠ gs → (W.setCell ⟨gs, p, none⟩ (.int .i64 (x : Nat))).heap[k]? = W.heap[k]? := fun k hk => Below.heap_setCell _ _ _ k hk
  refine ⟨h.bel.trans ((only_setCell W gs p _).below h.bel.size (by simp [h.ge.2.1])), h.ge, h.ne, (ho _ n1).trans h.box, ⟨_, heap_setCell_same W gs p cs 3 _ s1, fun i hi => ?_⟩, ⟨cd, (ho _ (Ne.symm n4)).trans d1, d2⟩, ⟨cz, (ho _ (Ne.symm n5)).trans z1, z2⟩, fun i => ?_⟩
  · have hs : p < cs.size := (Array.getElem?_eq_some_iff.1 (s2 p hp)).1
    unfold put1
    by_cases e : i = p
    · subst e
      rw [if_pos rfl, Array.getElem?_setIfInBounds_self_of_lt hs]
    · rw [if_neg e, Array.getElem?_setIfInBounds_ne (Ne.symm e)]; exact s2 i hi
  · unfold put1
    split
    · exact hx
    · exact h.st2 i

theorem Mes.setD (h : Mes W1 W M gs gd gz n st dp sz) {p : Nat} (x : Int) : Mes W1 (W.setCell ⟨gd, p, none⟩ (.int .i64 x)) M gs gd gz n st (putI dp p x) sz := by
  obtain ⟨cs, s1, s2⟩ := h.s
  obtain ⟨cd, d1, d2⟩ := h.d
  obtain ⟨cz, z1, z2⟩ := h.z
  obtain ⟨n1, n2, n3, n4, n5, n6⟩ := h.ne
  have ho : ∀ k, k ≠ gd → (W.setCell ⟨gd, p, none⟩ (.int .i64 x)).heap[k]? = W.heap[k]? := fun k hk => Below.heap_setCell _ _ _ k hk
  refine ⟨h.bel.trans ((only_setCell W gd p _).below h.bel.size (by simp [h.ge.2.2.1])), h.ge, h.ne, (ho _ n2).trans h.box, ⟨cs, (ho _ n4).trans s1, s2⟩, ⟨_, heap_setCell_same W gd p cd 3 _ d1, fun i hi => ?_⟩, ⟨cz, (ho _ (Ne.symm n6)).trans z1, z2⟩, h.st2⟩
  have hz := d2 i hi
  unfold putI
  by_cases e : i = p
  · subst e
    rw [if_pos rfl]
    exact Array.getElem?_setIfInBounds_self_of_lt (Array.getElem?_eq_some_iff.1 hz).1
  · rw [if_neg e, Array.getElem?_setIfInBounds_ne (Ne.symm e)]; exact hz

theorem Mes.setZ (h : Mes W1 W M gs gd gz n st dp sz) {p : Nat} (x : Int) : Mes W1 (W.setCell ⟨gz, p, none⟩ (.int .i64 x)) M gs gd gz n st dp (putI sz p x) := by
  obtain ⟨cs, s1, s2⟩ := h.s
  obtain ⟨cd, d1, d2⟩ := h.d
  obtain ⟨cz, z1, z2⟩ := h.z
  obtain ⟨n1, n2, n3, n4, n5, n6⟩ := h.ne
  have ho : ∀ k, k ≠ gz → (W.setCell ⟨gz, p, none⟩ (.int .i64 x)).heap[k]? = W.heap[k]? := fun k hk => Below.heap_setCell _ _ _ k hk
  refine ⟨h.bel.trans ((only_setCell W gz p _).below h.bel.size (by simp [h.ge.2.2.2])), h.ge, h.ne, (ho _ n3).trans h.box, ⟨cs, (ho _ n5).trans s1, s2⟩, ⟨cd, (ho _ n6).trans d1, d2⟩, ⟨_, heap_setCell_same W gz p cz 3 _ z1, fun i hi => ?_⟩, h.st2⟩
  have hz := z2 i hi
  unfold putI
  by_cases e : i = p
  · subst e
    rw [if_pos rfl]
    exact Array.getElem?_setIfInBounds_self_of_lt (Array.getElem?_eq_some_iff.1 hz).1
  · rw [if_neg e, Array.getElem?_setIfInBounds_ne (Ne.symm e)]; exact hz
end

end Go.Proofs.Ytblfbmdnkgebdaa.Dn

/-
  Asking.
-/
namespace Go.Proofs.Ytblfbmdnkgebdaa.Dn
open Go.RowKit Go.Maps

def AskP (W1 W : World) (M gs gd gz : Nat) (N : List Nd) (ρ st : Nat → Nat) (dp sz : Nat → Int) (i : Nat) (e : Ending) (W' : World) : Prop :=
  ∃ (z : Bool) (st' : Nat → Nat) (dp' sz' : Nat → Int), e = .returned (.bool z) ∧ Mes W1 W' M gs gd gz N.length st' dp' sz' ∧ Only [gs, gd, gz] W W' ∧ (z = true → (∀ j, st j ≠ 0 → st' j = st j) ∧ (∀ j, st' j = 1 → st j = 1) ∧ st' (ρ i) = 2 ∧ (Kn N ρ st dp sz → Kn N ρ st' dp' sz')) ∧ (∀ φ, Rk N ρ φ → (∀ j, st j = 1 → φ (ρ i) < φ j) → z = true)

theorem askP_no {W1 W W' : World} {M gs gd gz : Nat} {N : List Nd} {ρ st st' : Nat → Nat} {dp sz dp' sz' : Nat → Int} {i : Nat} (h : Mes W1 W' M gs gd gz N.length st' dp' sz') (ho : Only [gs, gd, gz] W W') (hn : ∀ φ, Rk N ρ φ → (∀ j, st j = 1 → φ (ρ i) < φ j) → False) : AskP W1 W M gs gd gz N ρ st dp sz i (.returned (.bool false)) W' := ⟨false, st', dp', sz', rfl, h, ho, fun e => (by cases e), fun φ h1 h2 => (hn φ h1 h2).elim⟩

/-- What the loop keeps. -/
structure AskL (W1 W : World) (M gs gd gz : Nat) (N : List Nd) (ρ st : Nat → Nat) (dp sz : Nat → Int) (p : Nat) (l : List Nat) (m : Nat) (d s : Int) (wr : World) (st' : Nat → Nat) (dp' sz' : Nat → Int) : Prop where
  mes : Mes W1 wr M gs gd gz N.length st' dp' sz'
  only : Only [gs, gd, gz] W wr
  old : ∀ j, put1 st p 1 j ≠ 0 → st' j = put1 st p 1 j
  one : ∀ j, st' j = 1 → put1 st p 1 j = 1
  kn : Kn N ρ st dp sz → Kn N ρ st' dp' sz'
  bn : Kn N ρ st dp sz → ∃ ts : List T, ts.length = l.length ∧ (∀ k (h1 : k < l.length) (h2 : k < ts.length), Bn N ρ l[k] ts[k]) ∧ d = dps ts ∧ s = min (1 + (ts.map T.size).sum) 1000000 ∧ dps ts ≤ (twos st' N.length : Int)
  z : zeros st' N.length < m

theorem AskL.next {W1 W : World} {M gs gd gz : Nat} {N : List Nd} {ρ st : Nat → Nat} {dp sz : Nat → Int} {p : Nat} {l : List Nat} {m : Nat} {d s : Int} {wr : World} {st' : Nat → Nat} {dp' sz' : Nat → Int} (h : AskL W1 W M gs gd gz N ρ st dp sz p l m d s wr st' dp' sz') {a : Nat} (ha : ρ a < N.length) (hid : ρ (ρ a) = ρ a) {W5 W6 : World} {st5 : Nat → Nat} {dp5 sz5 : Nat → Int} (m5 : Mes W1 W5 M gs gd gz N.length st5 dp5 sz5) (o5 : Only [gs, gd, gz] wr W5) (h1 : ∀ j, st' j ≠ 0 → st5 j = st' j) (h1b : ∀ j, st5 j = 1 → st' j = 1) (h2 : st5 (ρ a) = 2) (h3 : Kn N ρ st' dp' sz' → Kn N ρ st5 dp5 sz5) (h6 : Below W5.heap.size W5 W6) {x y : Int} (hx : x = dp5 (ρ a)) (hy : y = sz5 (ρ a)) : AskL W1 W M gs gd gz N ρ st dp sz p (l ++ [a]) m (max d x) (min (IntKind.i64.wrap (s + y)) 1000000) W6 st5 dp5 sz5 := by
  refine ⟨m5.keep h6, (h.only.trans o5 (fun r hr => .inl hr)).trans (Only.of_below (B := []) h6) (by simp), fun j hj => ?_, fun j hj => h.one j (h1b j hj), fun ho => h3 (h.kn ho), fun ho => ?_, ?_⟩
  · have := h.old j hj
    rw [h1 j (by rw [this]; exact hj), this]
  · obtain ⟨ts, q1, q2, q3, q4, q5⟩ := h.bn ho
    obtain ⟨t, g1, g2, g3, g4⟩ := h3 (h.kn ho) (ρ a) ha h2
    have tw : twos st' N.length ≤ twos st5 N.length := twos_mono fun i hi => by rw [h1 i (by rw [hi]; decide)]; exact hi
    have hts : 1 ≤ t.size := size_ge t
    have hsum : 0 ≤ (ts.map T.size).sum := by
      have : ∀ q : List T, 0 ≤ (q.map T.size).sum := by
        intro q
        induction q with
        | nil => simp
        | cons b r ih => have := size_ge b; simp only [List.map_cons, List.sum_cons]; omega
      exact this ts
    refine ⟨ts ++ [t], by simp [q1], fun k k1 k2 => ?_, ?_, ?_, ?_⟩
    · by_cases hk : k < l.length
      · rw [List.getElem_append_left hk, List.getElem_append_left (by omega)]
        exact q2 k hk (by omega)
      · have e : k = l.length := by rw [List.length_append, List.length_singleton] at k1; omega
        subst e
        have e1 : (l ++ [a])[l.length] = a := by simp
        have e2 : (ts ++ [t])[l.length]'k2 = t := by
          have : l.length = ts.length := q1.symm
          simp [this]
        rw [e1, e2]
        exact g1.cls hid.symm
    · rw [dps_snoc, q3, hx, g2]
    · rw [hy, g3, q4]
      have w : IntKind.i64.wrap (min (1 + (ts.map T.size).sum) 1000000 + min t.size 1000000) = min (1 + (ts.map T.size).sum) 1000000 + min t.size 1000000 := wrap_small _ (by omega) (by omega)
      rw [w, List.map_append, List.sum_append]
      simp only [List.map_cons, List.map_nil, List.sum_cons, List.sum_nil]
      omega
    · rw [dps_snoc]
      omega
  · have : zeros st5 N.length ≤ zeros st' N.length := zeros_mono fun j hj => Decidable.byContradiction fun hn => by rw [h1 j hn] at hj; exact hn hj
    have := h.z
    omega

theorem AskL.last {W1 W : World} {M gs gd gz : Nat} {N : List Nd} {ρ st : Nat → Nat} {dp sz : Nat → Int} {p i : Nat} {m : Nat} {dd s : Int} {wr : World} {st' : Nat → Nat} {dp' sz' : Nat → Int} {d : Nd} (h : AskL W1 W M gs gd gz N ρ st dp sz p d.args m dd s wr st' dp' sz') (hd : N[p]? = some d) (hp : ρ i = p) (hpp : ρ p = p) (h0 : st p = 0) (hn : N.length ≤ 1048576) : AskP W1 W M gs gd gz N ρ st dp sz i (.returned (.bool true)) (((wr.setCell ⟨gd, p, none⟩ (.int .i64 (wrap64 (dd + 1)))).setCell ⟨gz, p, none⟩ (.int .i64 s)).setCell ⟨gs, p, none⟩ (.int .i64 2)) := by
  have hpl : p < N.length := (List.getElem?_eq_some_iff.1 hd).1
  have h1 : st' p = 1 := by have := h.old p (by simp [put1]); rw [this]; simp [put1]
  refine ⟨true, put1 st' p 2, putI dp' p (wrap64 (dd + 1)), putI sz' p s, rfl, ((h.mes.setD _).setZ _).setS hpl 2 (Nat.le_refl _), ?_, fun _ => ⟨fun j hj => ?_, fun j hj => ?_, by simp [put1, hp], fun ho => ?_⟩, fun _ _ _ => rfl⟩
  · exact ((h.only.trans (only_setCell _ _ _ _) (fun r hr => .inl (by simp at hr; simp [hr]))).trans (only_setCell _ _ _ _) (fun r hr => .inl (by simp at hr; simp [hr]))).trans (only_setCell _ _ _ _) (fun r hr => .inl (by simp at hr; simp [hr]))
  · have hne : j ≠ p := fun e => hj (by rw [e]; exact h0)
    have := h.old j (by simp only [put1, if_neg hne]; exact hj)
    simp only [put1, if_neg hne] at this ⊢
    exact this
  · have hne : j ≠ p := fun e => by simp [put1, e] at hj
    simp only [put1, if_neg hne] at hj
    have := h.one j hj
    simpa only [put1, if_neg hne] using this
  · obtain ⟨ts, q1, q2, q3, q4, q5⟩ := h.bn ho
    have tw := twos_le st' N.length
    have hdg := dps_ge ts
    have w : wrap64 (dd + 1) = dd + 1 := by unfold wrap64; omega
    exact (h.kn ho).done hd hpp h1 q1 q2 q5 (by rw [w, q3]) q4

set_option maxRecDepth 100000 in
set_option maxHeartbeats 16000000 in
theorem ask_any {W1 : World} {B g c M gs gd gz : Nat} {N : List Nd} {up ρ r : Nat → Nat} {K : Nat} {av : Nat → Value} (hN : Net W1 B g c N up av) (hU : Up N.length up ρ r K) (hT : Tp N ρ) : ∀ (m : Nat) (st : Nat → Nat) (dp sz : Nat → Int) (W : World) (i : Nat), zeros st N.length < m → Mes W1 W M gs gd gz N.length st dp sz → i < N.length →
    Calls Try.prog 34 #[.pointer (some ⟨B, 0, none⟩), .pointer (some ⟨M, 0, none⟩), .int .i64 (i : Nat)] W (AskP W1 W M gs gd gz N ρ st dp sz i) := by
  have HNl : Hid (N.length ≤ 1048576) := hN.len
  have HN : Hid (∀ Z, Below W1.heap.size W1 Z → Net Z B g c N up av) := fun Z hZ => hN.keep hZ
  have HU : Hid (Up N.length up ρ r K) := hU
  have HT : Hid (Tp N ρ) := hT
  have HBe : Hid (∀ (i : Nat) (d : Nd), N[i]? = some d → ∀ a ∈ d.args, a < N.length) := fun i d hd a ha => by
    obtain ⟨hl, rfl⟩ := List.getElem?_eq_some_iff.1 hd
    exact hN.below i hl a ha
  clear hN hU hT
  intro m
  induction m with
  | zero => intro st dp sz W i hm; exact absurd hm (Nat.not_lt_zero _)
  | succ m ih =>
  intro st dp sz W i hm hM hi
  have h52 := top_any W (HN.out W hM.bel) HU.out i hi
  have HM : Hid (Mes W1 W M gs gd gz N.length st dp sz) := hM
  have HZ : Hid (zeros st N.length < m + 1) := hm
  obtain ⟨p, hp⟩ : ∃ p, ρ i = p := ⟨_, rfl⟩
  have HP : Hid (ρ i = p ∧ p < N.length) := ⟨hp, by rw [← hp]; exact HT.out.lt i hi⟩
  rw [hp] at h52
  clear hm hM hi hp
  go_enter Try.func34, Try.ntmps34
  go_wp2_with fail
  refine h52.mono ?_
  rintro e W2 ⟨rfl, b2⟩
  have M2 : Mes W1 W2 M gs gd gz N.length st dp sz := HM.out.keep b2
  have HM2 : Hid (Mes W1 W2 M gs gd gz N.length st dp sz ∧ Below W.heap.size W W2) := ⟨M2, b2⟩
  obtain ⟨⟨k0, k1, k2⟩, ⟨s0, s1⟩, _⟩ := M2.cells HP.out.2
  have hpI : (p : Int) < (N.length : Int) := by have := HP.out.2; omega
  have hp0 : (0 : Int) ≤ (p : Int) := by omega
  have hst := M2.st2 p
  clear M2 b2 h52 HM
  obtain ⟨u, hu⟩ : ∃ u, st p = u := ⟨_, rfl⟩
  rw [hu] at s0 hst
  have HSt : Hid (st p = u) := hu
  clear hu
  by_cases hu2 : u = 2
  · subst hu2
    clear hst
    go_wp2
    refine bodyPost_ret (v := .bool true) (by simp [results, Try.results34, go_sem]) rfl ?_
    exact ⟨true, st, dp, sz, rfl, HM2.out.1, Only.of_below HM2.out.2, fun _ => ⟨fun _ _ => rfl, fun _ h => h, by rw [HP.out.1]; exact HSt.out, fun h => h⟩, fun _ _ _ => rfl⟩
  by_cases hu1 : u = 1
  · subst hu1
    clear hst hu2
    go_wp2
    refine bodyPost_ret (v := .bool false) (by simp [results, Try.results34, go_sem]) rfl ?_
    exact askP_no HM2.out.1 (Only.of_below HM2.out.2) (fun φ _ h2 => by have := h2 p HSt.out; rw [HP.out.1] at this; omega)
  obtain rfl : u = 0 := by omega
  clear hst hu2 hu1
  obtain ⟨nd, hdp⟩ : ∃ d, N[p]? = some d := ⟨_, List.getElem?_eq_getElem HP.out.2⟩
  have HD : Hid (N[p]? = some nd) := hdp
  obtain ⟨pa, pc, epa, hpm, _⟩ := (HN.out W2 HM2.out.1.bel).arg hdp
  have ep : N[p]'HP.out.2 = nd := (List.getElem?_eq_some_iff.1 hdp).2
  have HX1 : Hid (∀ Z, Below W1.heap.size W1 Z → Z.cell? ⟨B, 0, none⟩ = some (.slice (some ⟨g, 0, none⟩) N.length c) ∧ Z.cell? ⟨g, p * 4 + 2, none⟩ = some (.slice pa nd.args.length pc) ∧ ∀ k (hk : k < nd.args.length), ∃ bb o, pa = some ⟨bb, o, none⟩ ∧ Z.cell? ⟨bb, o + k, none⟩ = some (.int .i64 (nd.args[k] : Nat))) := fun Z hZ => by
    have hn := HN.out Z hZ
    obtain ⟨_, _, q2, _, _⟩ := hn.cells HP.out.2
    rw [epa] at q2
    obtain ⟨a5, c5, e5, _, h5⟩ := hn.arg hdp
    rw [epa] at e5
    cases e5
    exact ⟨hn.bcell.1, q2, fun k hk => by obtain ⟨bb, o, q3, _, _, _, q4⟩ := h5 k hk; exact ⟨bb, o, q3, q4⟩⟩
  have HL0 : Hid (AskL W1 W M gs gd gz N ρ st dp sz p (nd.args.take 0) m 0 1 (W2.setCell ⟨gs, p, none⟩ (.int .i64 1)) (put1 st p 1) dp sz) := by
    refine ⟨HM2.out.1.setS HP.out.2 1 (by omega), (Only.of_below (B := [gs, gd, gz]) HM2.out.2).trans (only_setCell _ _ _ _) (fun r hr => .inl (by simp at hr; simp [hr])), fun _ _ => rfl, fun _ h => h, fun h => h.one HSt.out, fun _ => ⟨[], by simp, fun k h1 => absurd h1 (by simp), rfl, (by show (1 : Int) = min (1 + 0) 1000000; omega), (by show (0 : Int) ≤ _; omega)⟩, ?_⟩
    have h1 := zeros_put HP.out.2 HSt.out
    have h2 := HZ.out
    omega
  clear hdp epa ep
  go_wp2
  obtain ⟨W3, hW3⟩ : ∃ X, W2.setCell ⟨gs, p, none⟩ (.int .i64 1) = X := ⟨_, rfl⟩
  rw [hW3] at HL0 ⊢
  clear hW3 k0 k1 k2 s0 s1
  go_loopw [7, 8, 9] (fun vd vs vk wr => ∃ (k : Nat) (d s : Int), vd = .int .i64 d ∧ vs = .int .i64 s ∧ vk = .int .i64 k ∧ k ≤ nd.args.length ∧ Hid (∃ st' dp' sz', AskL W1 W M gs gd gz N ρ st dp sz p (nd.args.take k) m d s wr st' dp' sz')) (fun _ _ vk _ => nd.args.length - (intOf vk).toNat)
  case atStart => exact ⟨0, 0, 1, rfl, rfl, rfl, Nat.zero_le _, _, _, _, HL0.out⟩
  case round =>
    obtain ⟨k, d, s, rfl, rfl, rfl, hk, HI⟩ := hrel
    obtain ⟨st', dp', sz', hL⟩ := HI.out
    obtain ⟨cb, ca, hargs⟩ := HX1.out wr hL.mes.bel
    by_cases hlt : k < nd.args.length
    · have hkI : (k : Int) < (nd.args.length : Int) := by omega
      have hk0 : (0 : Int) ≤ (k : Int) := by omega
      obtain ⟨bb, o, rfl, ck⟩ := hargs k hlt
      obtain ⟨a, hka⟩ : ∃ a, nd.args[k] = a := ⟨_, rfl⟩
      rw [hka] at ck
      have hal : a < N.length := HBe.out p nd HD.out a (hka ▸ List.getElem_mem hlt)
      have HAm : Hid (a ∈ nd.args) := hka ▸ List.getElem_mem hlt
      have HTk : Hid (nd.args.take (k + 1) = nd.args.take k ++ [a]) := by show _ = _; rw [List.take_succ_eq_append_getElem hlt, hka]
      have hcall := ih st' dp' sz' wr a hL.z hL.mes hal
      obtain ⟨q, hq⟩ : ∃ q, ρ a = q := ⟨_, rfl⟩
      have hql : q < N.length := by rw [← hq]; exact HT.out.lt a hal
      have HQ : Hid (ρ a = q) := hq
      have HLt : Hid (k < nd.args.length) := hlt
      have HL : Hid (AskL W1 W M gs gd gz N ρ st dp sz p (nd.args.take k) m d s wr st' dp' sz') := hL
      have hqI : (q : Int) < (N.length : Int) := by omega
      have hq0 : (0 : Int) ≤ (q : Int) := by omega
      clear hL HI hargs hka hq
      go_wp2_with fail
      refine hcall.mono ?_
      rintro e W5 ⟨z, st5, dp5, sz5, rfl, m5, o5, hz, hno⟩
      have HM5 : Hid (Mes W1 W5 M gs gd gz N.length st5 dp5 sz5 ∧ Only [gs, gd, gz] wr W5) := ⟨m5, o5⟩
      have HZ5 : Hid (z = true → (∀ j, st' j ≠ 0 → st5 j = st' j) ∧ (∀ j, st5 j = 1 → st' j = 1) ∧ st5 (ρ a) = 2 ∧ (Kn N ρ st' dp' sz' → Kn N ρ st5 dp5 sz5)) := hz
      have HNo : Hid (∀ φ, Rk N ρ φ → (∀ j, st j = 1 → φ (ρ i) < φ j) → z = true) := fun φ h1 h2 => hno φ h1 (fun j hj => by
        have hpi : φ (ρ i) = φ p := by rw [HP.out.1]
        have hap : φ (ρ a) < φ p := by
          rw [h1.1 (ρ a) a (HT.out.idem a)]
          exact h1.2 p nd HD.out a HAm.out
        have := HL.out.one j hj
        unfold put1 at this
        by_cases e : j = p
        · rw [e]; exact hap
        · rw [if_neg e] at this
          have := h2 j this
          omega)
      clear m5 o5 hz hno hcall ck ca cb
      cases z
      · go_wp2
        refine bodyPost_ret (v := .bool false) (by simp [results, Try.results34, go_sem]) rfl ?_
        exact askP_no HM5.out.1 (HL.out.only.trans HM5.out.2 (fun r hr => .inl hr)) (fun φ h1 h2 => by cases HNo.out φ h1 h2)
      have HZ6 : Hid ((∀ j, st' j ≠ 0 → st5 j = st' j) ∧ (∀ j, st5 j = 1 → st' j = 1) ∧ st5 (ρ a) = 2 ∧ (Kn N ρ st' dp' sz' → Kn N ρ st5 dp5 sz5)) := HZ5.out rfl
      clear HZ5 HNo
      have HMM : Hid (Mes W1 W5 M gs gd gz N.length st5 dp5 sz5) := HM5.out.1
      obtain ⟨Wd14, hWd14⟩ : ∃ X, W5.drew = X := ⟨_, rfl⟩
      have hd14 : Below W5.heap.size W5 Wd14 := by rw [← hWd14]; exact (Below.refl _ W5).drew
      have md14 := HMM.out.keep hd14
      have ht14 := top_any Wd14 (HN.out Wd14 md14.bel) HU.out a hal
      rw [HQ.out] at ht14
      obtain ⟨zv14, hzv14, hze14⟩ : ∃ z : Int, Wd14.cell? ⟨gd, q, none⟩ = some (.int .i64 z) ∧ z = dp5 q := by
        obtain ⟨_, _, ⟨k3, _⟩, k4, _⟩ := md14.cells hql
        exact ⟨_, k3, rfl⟩
      have HZv14 : Hid (zv14 = dp5 (ρ a)) := by show _ = _; rw [HQ.out]; exact hze14
      clear hze14
      have HX14 : Hid (∀ Z, Below Wd14.heap.size Wd14 Z → Z.cell? ⟨M, 1, none⟩ = some (.slice (some ⟨gd, 0, none⟩) N.length N.length) ∧ Z.cell? ⟨gd, q, none⟩ = some (.int .i64 zv14)) := fun Z hZ => by
        obtain ⟨⟨k0, k1, k2⟩, _, _⟩ := md14.cells hql
        have hl := md14.lt
        exact ⟨kc hZ (by omega) k1, kc hZ (by omega) hzv14⟩
      have HMd14 : Hid (Mes W1 Wd14 M gs gd gz N.length st5 dp5 sz5 ∧ Below W5.heap.size W5 Wd14) := ⟨md14, hd14⟩
      clear md14 hd14 hzv14 HMM
      go_wp2
      refine wp_region_held_drew (S := fun Z => Below Wd14.heap.size Wd14 Z) (by kernel_rfl) (by rw [hWd14]; exact Below.refl _ _) (fun hHeld => ?_)
      rw [hWd14] at hHeld ⊢
      refine take_mk 0 (.int .i64 d) rfl (by kernel_rfl) (by kernel_rfl) (by kernel_rfl) (fun _ _ _ h => h) (Or.inl ⟨by rfl, fun Z hZ => by go_simp⟩) (by assumption) ?_
      try simp only [Act.put, List.setIfInBounds_toArray, List.set_cons_zero, List.set_cons_succ]
      refine take_mk 1 (.pointer (some ⟨M, 0, none⟩)) rfl (by kernel_rfl) (by kernel_rfl) (by kernel_rfl) (fun _ _ _ h => h) (Or.inl ⟨by rfl, fun Z hZ => by go_simp⟩) (by assumption) ?_
      try simp only [Act.put, List.setIfInBounds_toArray, List.set_cons_zero, List.set_cons_succ]
      refine take_mk 2 (.pointer (some ⟨M, 0, none⟩)) rfl (by kernel_rfl) (by kernel_rfl) (by kernel_rfl) (fun _ _ _ h => h) (Or.inl ⟨by rfl, fun Z hZ => by go_simp⟩) (by assumption) ?_
      try simp only [Act.put, List.setIfInBounds_toArray, List.set_cons_zero, List.set_cons_succ]
      refine take_mk 3 (.pointer (some ⟨M, 1, none⟩)) rfl (by kernel_rfl) (by kernel_rfl) (by kernel_rfl) (fun _ _ _ h => h) (Or.inl ⟨by rfl, fun Z hZ => by go_simp⟩) (by assumption) ?_
      try simp only [Act.put, List.setIfInBounds_toArray, List.set_cons_zero, List.set_cons_succ]
      refine take_mk 4 (.slice (some ⟨gd, 0, none⟩) N.length N.length) rfl (by kernel_rfl) (by kernel_rfl) (by kernel_rfl) (fun _ _ _ h => h) (Or.inl ⟨by rfl, fun Z hZ => by obtain ⟨y0, y1⟩ := HX14.out Z hZ; go_simp⟩) (by assumption) ?_
      try simp only [Act.put, List.setIfInBounds_toArray, List.set_cons_zero, List.set_cons_succ]
      refine take_mk 5 (.pointer (some ⟨B, 0, none⟩)) rfl (by kernel_rfl) (by kernel_rfl) (by kernel_rfl) (fun _ _ _ h => h) (Or.inl ⟨by rfl, fun Z hZ => by go_simp⟩) (by assumption) ?_
      try simp only [Act.put, List.setIfInBounds_toArray, List.set_cons_zero, List.set_cons_succ]
      refine take_mk 6 (.int .i64 (a : Nat)) rfl (by kernel_rfl) (by kernel_rfl) (by kernel_rfl) (fun _ _ _ h => h) (Or.inl ⟨by rfl, fun Z hZ => by go_simp⟩) (by assumption) ?_
      try simp only [Act.put, List.setIfInBounds_toArray, List.set_cons_zero, List.set_cons_succ]
      refine wpAnyH_ready (rs := [7]) (by kernel_rfl) (by simp) (AllReadyH.cons (o := ⟨_, _, _, _, _, _⟩) rfl (fun K hK => ?_) AllReadyH.nil)
      rw [if_pos (by rfl)]
      go_simp
      refine ht14.mono ?_
      rintro e W7 ⟨rfl, bn14⟩
      refine hK.out _ _ bn14 (fun _ => ?_)
      clear hK K
      try simp only [Act.put, List.setIfInBounds_toArray, List.set_cons_zero, List.set_cons_succ]
      refine take_mk 8 (.pointer (some ⟨gd, q, none⟩)) rfl (by kernel_rfl) (by kernel_rfl) (by kernel_rfl) (fun _ _ _ h => h) (Or.inl ⟨by rfl, fun Z hZ => by go_simp⟩) (by assumption) ?_
      try simp only [Act.put, List.setIfInBounds_toArray, List.set_cons_zero, List.set_cons_succ]
      refine take_mk 9 (.int .i64 zv14) rfl (by kernel_rfl) (by kernel_rfl) (by kernel_rfl) (fun _ _ _ h => h) (Or.inl ⟨by rfl, fun Z hZ => by obtain ⟨y0, y1⟩ := HX14.out Z hZ; go_simp⟩) (by assumption) ?_
      try simp only [Act.put, List.setIfInBounds_toArray, List.set_cons_zero, List.set_cons_succ]
      refine wpAnyH_ready (rs := [10]) (by kernel_rfl) (by simp) (AllReadyH.cons (o := ⟨_, _, _, _, _, _⟩) rfl (fun K hK => ?_) AllReadyH.nil)
      rw [if_pos (by rfl)]
      go_simp
      refine hK.out _ _ bn14 (fun _ => ?_)
      clear hK K
      try simp only [Act.put, List.setIfInBounds_toArray, List.set_cons_zero, List.set_cons_succ]
      refine take_mk 11 (.int .i64 (max d zv14)) rfl (by kernel_rfl) (by kernel_rfl) (by kernel_rfl) (fun _ _ _ h => h) (Or.inl ⟨by rfl, fun Z hZ => by go_simp⟩) (by assumption) ?_
      try simp only [Act.put, List.setIfInBounds_toArray, List.set_cons_zero, List.set_cons_succ]
      refine wpAnyH_done (by kernel_rfl) ?_ _
      try simp only [Act.put]
      have HMMW7 : Hid (Mes W1 W7 M gs gd gz N.length st5 dp5 sz5) := HMd14.out.1.keep bn14
      have HBW7 : Hid (Below W5.heap.size W5 W7) := HMd14.out.2.trans (bn14.mono HMd14.out.2.size)
      clear hHeld bn14 ht14 hWd14 HX14 HMd14
      obtain ⟨Wd15, hWd15⟩ : ∃ X, W7.drew = X := ⟨_, rfl⟩
      have hd15 : Below W7.heap.size W7 Wd15 := by rw [← hWd15]; exact (Below.refl _ W7).drew
      have md15 := HMMW7.out.keep hd15
      have ht15 := top_any Wd15 (HN.out Wd15 md15.bel) HU.out a hal
      rw [HQ.out] at ht15
      obtain ⟨zv15, hzv15, hze15⟩ : ∃ z : Int, Wd15.cell? ⟨gz, q, none⟩ = some (.int .i64 z) ∧ z = sz5 q := by
        obtain ⟨_, _, ⟨k3, _⟩, k4, _⟩ := md15.cells hql
        exact ⟨_, k4, rfl⟩
      have HZv15 : Hid (zv15 = sz5 (ρ a)) := by show _ = _; rw [HQ.out]; exact hze15
      clear hze15
      have HX15 : Hid (∀ Z, Below Wd15.heap.size Wd15 Z → Z.cell? ⟨M, 2, none⟩ = some (.slice (some ⟨gz, 0, none⟩) N.length N.length) ∧ Z.cell? ⟨gz, q, none⟩ = some (.int .i64 zv15)) := fun Z hZ => by
        obtain ⟨⟨k0, k1, k2⟩, _, _⟩ := md15.cells hql
        have hl := md15.lt
        exact ⟨kc hZ (by omega) k2, kc hZ (by omega) hzv15⟩
      have HMd15 : Hid (Mes W1 Wd15 M gs gd gz N.length st5 dp5 sz5 ∧ Below W7.heap.size W7 Wd15) := ⟨md15, hd15⟩
      clear md15 hd15 hzv15 HMMW7
      go_wp2
      refine wp_region_held_drew (S := fun Z => Below Wd15.heap.size Wd15 Z) (by kernel_rfl) (by rw [hWd15]; exact Below.refl _ _) (fun hHeld => ?_)
      rw [hWd15] at hHeld ⊢
      refine take_mk 0 (.int .i64 s) rfl (by kernel_rfl) (by kernel_rfl) (by kernel_rfl) (fun _ _ _ h => h) (Or.inl ⟨by rfl, fun Z hZ => by go_simp⟩) (by assumption) ?_
      try simp only [Act.put, List.setIfInBounds_toArray, List.set_cons_zero, List.set_cons_succ]
      refine take_mk 1 (.pointer (some ⟨M, 0, none⟩)) rfl (by kernel_rfl) (by kernel_rfl) (by kernel_rfl) (fun _ _ _ h => h) (Or.inl ⟨by rfl, fun Z hZ => by go_simp⟩) (by assumption) ?_
      try simp only [Act.put, List.setIfInBounds_toArray, List.set_cons_zero, List.set_cons_succ]
      refine take_mk 2 (.pointer (some ⟨M, 0, none⟩)) rfl (by kernel_rfl) (by kernel_rfl) (by kernel_rfl) (fun _ _ _ h => h) (Or.inl ⟨by rfl, fun Z hZ => by go_simp⟩) (by assumption) ?_
      try simp only [Act.put, List.setIfInBounds_toArray, List.set_cons_zero, List.set_cons_succ]
      refine take_mk 3 (.pointer (some ⟨M, 2, none⟩)) rfl (by kernel_rfl) (by kernel_rfl) (by kernel_rfl) (fun _ _ _ h => h) (Or.inl ⟨by rfl, fun Z hZ => by go_simp⟩) (by assumption) ?_
      try simp only [Act.put, List.setIfInBounds_toArray, List.set_cons_zero, List.set_cons_succ]
      refine take_mk 4 (.slice (some ⟨gz, 0, none⟩) N.length N.length) rfl (by kernel_rfl) (by kernel_rfl) (by kernel_rfl) (fun _ _ _ h => h) (Or.inl ⟨by rfl, fun Z hZ => by obtain ⟨y0, y1⟩ := HX15.out Z hZ; go_simp⟩) (by assumption) ?_
      try simp only [Act.put, List.setIfInBounds_toArray, List.set_cons_zero, List.set_cons_succ]
      refine take_mk 5 (.pointer (some ⟨B, 0, none⟩)) rfl (by kernel_rfl) (by kernel_rfl) (by kernel_rfl) (fun _ _ _ h => h) (Or.inl ⟨by rfl, fun Z hZ => by go_simp⟩) (by assumption) ?_
      try simp only [Act.put, List.setIfInBounds_toArray, List.set_cons_zero, List.set_cons_succ]
      refine take_mk 6 (.int .i64 (a : Nat)) rfl (by kernel_rfl) (by kernel_rfl) (by kernel_rfl) (fun _ _ _ h => h) (Or.inl ⟨by rfl, fun Z hZ => by go_simp⟩) (by assumption) ?_
      try simp only [Act.put, List.setIfInBounds_toArray, List.set_cons_zero, List.set_cons_succ]
      refine wpAnyH_ready (rs := [7]) (by kernel_rfl) (by simp) (AllReadyH.cons (o := ⟨_, _, _, _, _, _⟩) rfl (fun K hK => ?_) AllReadyH.nil)
      rw [if_pos (by rfl)]
      go_simp
      refine ht15.mono ?_
      rintro e W9 ⟨rfl, bn15⟩
      refine hK.out _ _ bn15 (fun _ => ?_)
      clear hK K
      try simp only [Act.put, List.setIfInBounds_toArray, List.set_cons_zero, List.set_cons_succ]
      refine take_mk 8 (.pointer (some ⟨gz, q, none⟩)) rfl (by kernel_rfl) (by kernel_rfl) (by kernel_rfl) (fun _ _ _ h => h) (Or.inl ⟨by rfl, fun Z hZ => by go_simp⟩) (by assumption) ?_
      try simp only [Act.put, List.setIfInBounds_toArray, List.set_cons_zero, List.set_cons_succ]
      refine take_mk 9 (.int .i64 zv15) rfl (by kernel_rfl) (by kernel_rfl) (by kernel_rfl) (fun _ _ _ h => h) (Or.inl ⟨by rfl, fun Z hZ => by obtain ⟨y0, y1⟩ := HX15.out Z hZ; go_simp⟩) (by assumption) ?_
      try simp only [Act.put, List.setIfInBounds_toArray, List.set_cons_zero, List.set_cons_succ]
      refine take_mk 10 (.int .i64 (IntKind.i64.wrap (s + zv15))) rfl (by kernel_rfl) (by kernel_rfl) (by kernel_rfl) (fun _ _ _ h => h) (Or.inl ⟨by rfl, fun Z hZ => by go_simp⟩) (by assumption) ?_
      try simp only [Act.put, List.setIfInBounds_toArray, List.set_cons_zero, List.set_cons_succ]
      refine wpAnyH_ready (rs := [11]) (by kernel_rfl) (by simp) (AllReadyH.cons (o := ⟨_, _, _, _, _, _⟩) rfl (fun K hK => ?_) AllReadyH.nil)
      rw [if_pos (by rfl)]
      go_simp
      refine hK.out _ _ bn15 (fun _ => ?_)
      clear hK K
      try simp only [Act.put, List.setIfInBounds_toArray, List.set_cons_zero, List.set_cons_succ]
      refine take_mk 12 (.int .i64 (min (IntKind.i64.wrap (s + zv15)) 1000000)) rfl (by kernel_rfl) (by kernel_rfl) (by kernel_rfl) (fun _ _ _ h => h) (Or.inl ⟨by rfl, fun Z hZ => by go_simp⟩) (by assumption) ?_
      try simp only [Act.put, List.setIfInBounds_toArray, List.set_cons_zero, List.set_cons_succ]
      refine wpAnyH_done (by kernel_rfl) ?_ _
      try simp only [Act.put]
      have HMMW9 : Hid (Mes W1 W9 M gs gd gz N.length st5 dp5 sz5) := HMd15.out.1.keep bn15
      have HBW9 : Hid (Below W7.heap.size W7 W9) := HMd15.out.2.trans (bn15.mono HMd15.out.2.size)
      clear hHeld bn15 ht15 hWd15 HX15 HMd15
      have HBz : Hid (Below W5.heap.size W5 W9) := HBW7.out.trans (HBW9.out.mono HBW7.out.size)
      go_wp2
      go_roundw
      case rel => exact ⟨k + 1, _, _, rfl, rfl, by have := HLt.out; go_num, HLt.out, st5, dp5, sz5, by rw [HTk.out]; exact HL.out.next (HT.out.lt a hal) (HT.out.idem a) HM5.out.1 HM5.out.2 HZ6.out.1 HZ6.out.2.1 HZ6.out.2.2.1 HZ6.out.2.2.2 HBz.out HZv14.out HZv15.out⟩
      case measure => have := HLt.out; simp [intOf]; omega
    · have hkI : ¬ (k : Int) < (nd.args.length : Int) := by omega
      have HL : Hid (AskL W1 W M gs gd gz N ρ st dp sz p nd.args m d s wr st' dp' sz') := by have := hL; rw [List.take_of_length_le (by omega)] at this; exact this
      obtain ⟨⟨k0, k1, k2⟩, ⟨s0, s1⟩, ⟨d0, d1⟩, z0, z1⟩ := hL.mes.cells HP.out.2
      obtain ⟨n1, n2, n3, n4, n5, n6⟩ := hL.mes.ne
      have HF : Hid (AskP W1 W M gs gd gz N ρ st dp sz i (.returned (.bool true)) (((wr.setCell ⟨gd, p, none⟩ (.int .i64 (wrap64 (d + 1)))).setCell ⟨gz, p, none⟩ (.int .i64 s)).setCell ⟨gs, p, none⟩ (.int .i64 2))) := HL.out.last HD.out HP.out.1 (by rw [← HP.out.1]; exact HT.out.idem i) HSt.out HNl.out
      have m1 := Ne.symm n1
      have m2 := Ne.symm n2
      have m3 := Ne.symm n3
      have m4 := Ne.symm n4
      have m5 := Ne.symm n5
      have m6 := Ne.symm n6
      clear hL HI hargs
      go_wp2
      refine bodyPost_ret (v := .bool true) (by simp [results, Try.results34, go_sem]) rfl ?_
      exact HF.out

end Go.Proofs.Ytblfbmdnkgebdaa.Dn
