import Derived.Test.YtgnjgpplelakkaaGreatLV
import Derived.Test.YtgnjgpplelakkaaGreatL
import Derived.BigQuiet
import Derived.Test.YtgnjgpplelakkaaGreatJ
import Derived.Test.YtgnjgpplelakkaaGreatSF
import Derived.Laws.EntriesVeiled

/-
  The variables of a term: the document's with, vars, Vars; Ints.
-/
namespace Go.Proofs.YtgnjgpplelakkaaGreat
open Go.RowKit Go.Shelf

/-- One step of the document's with. -/
def wstep (n : Int) (s : List Int × Bool) (x : Int) : List Int × Bool :=
  let s' := if s.2 = false ∧ n ≤ x then (s.1 ++ [n], true) else s
  if x = n then s' else (s'.1 ++ [x], s'.2)
def wst (n : Int) (l : List Int) : List Int × Bool := l.foldl (wstep n) ([], false)
/-- The document's with: a number more, in its place. -/
def wth (l : List Int) (n : Int) : List Int := if (wst n l).2 then (wst n l).1 else (wst n l).1 ++ [n]

theorem row_form {W : World} {b : Nat} {e : TypeId} {s : Nat} {v : Value} {n : Nat} {xs : List Value} (h : W.ownsRow b e s v n xs) : ∃ a c, v = .slice a n c := by
  rcases h.2 with ⟨rfl, h0⟩ | ⟨g, cap, cur, rfl, _⟩
  · exact ⟨none, 0, by rw [h0]⟩
  · exact ⟨_, _, rfl⟩

theorem row_below {W W' : World} {b : Nat} {e : TypeId} {s : Nat} {v : Value} {n : Nat} {xs : List Value} (h : W.ownsRow b e s v n xs) (hb : Below W.heap.size W W') : W'.ownsRow b e s v n xs :=
  h.kept (row := none) ⟨hb.os, hb.tape, hb.output, hb.size, fun k hk _ => hb.block k hk⟩ (by cases v.ownBlock <;> simp)

/-- What a loop has collected so far. -/
structure WI (w : World) (v : Value) (k : Nat) (xs : List Int) (W : World) : Prop where
  row : W.ownsRow w.heap.size 3 1 v k (xs.map (Value.int .i64))
  bel : Below w.heap.size w W

theorem WI.len {w : World} {v : Value} {k : Nat} {xs : List Int} {W : World} (h : WI w v k xs W) : xs.length = k := by simpa using h.row.1

theorem WI.push {w : World} {v : Value} {k : Nat} {xs : List Int} {W : World} (h : WI w v k xs W) (y : Int) (v' : Value) (w3 : World) (hown : w3.ownsRow w.heap.size 3 1 v' (k + 1) (xs.map (Value.int .i64) ++ [.int .i64 y])) (hg : (W.alloc (.cells #[.int .i64 y] 3)).grownBy w3 v.ownBlock) : WI w v' (k + 1) (xs ++ [y]) w3 := by
  refine ⟨by simpa using hown, h.bel.trans (((below_box W _).mono h.bel.size).trans ⟨hg.os, hg.tape, hg.output, hg.size, fun j hj => hg.block j (by have := h.bel.size; simp; omega) (fun e => by have := (h.row.lt j e.symm).1; omega)⟩)⟩

theorem WI.al {w : World} {v : Value} {k : Nat} {xs : List Int} {W : World} (h : WI w v k xs W) (o : Obj) : (W.alloc o).ownsRow w.heap.size 3 1 v k (xs.map (Value.int .i64)) := row_below h.row (below_box W o)
theorem WI.up {w : World} {v : Value} {k : Nat} {xs : List Int} {W : World} (h : WI w v k xs W) (o : Obj) : w.heap.size ≤ (W.alloc o).heap.size := by have := h.bel.size; simp; omega

end Go.Proofs.YtgnjgpplelakkaaGreat

/-
  The variables of a term: numbers in order, plain mathematics.
-/
namespace Go.Proofs.YtgnjgpplelakkaaGreat
open Go.RowKit Go.Shelf

/-- The variables' numbers, from the left. -/
def T.vs : T → List Int
  | .mk v fn args => (if fn.size = 0 then [v] else []) ++ go args
where go : List T → List Int
  | [] => []
  | a :: r => T.vs a ++ go r

theorem T.vs_eq (t : T) : t.vs = (if t.fn.size = 0 then [t.v] else []) ++ (t.args.map T.vs).flatten := by
  have h : ∀ l : List T, T.vs.go l = (l.map T.vs).flatten := by
    intro l
    induction l with
    | nil => rfl
    | cons a r ih => simp [T.vs.go, ih]
  cases t with
  | mk v fn args => simp [T.vs, T.v, T.fn, T.args, h]

/-- Strictly rising. -/
abbrev Rise (l : List Int) : Prop := l.Pairwise (· < ·)

theorem rise_eq : ∀ (a b : List Int), Rise a → Rise b → (∀ x, x ∈ a ↔ x ∈ b) → a = b
  | [], [], _, _, _ => rfl
  | [], y :: b, _, _, h => absurd ((h y).2 (by simp)) (by simp)
  | x :: a, [], _, _, h => absurd ((h x).1 (by simp)) (by simp)
  | x :: a, y :: b, ha, hb, h => by
    obtain ⟨ha1, ha2⟩ := List.pairwise_cons.1 ha
    obtain ⟨hb1, hb2⟩ := List.pairwise_cons.1 hb
    have hxy : x = y := by
      have h1 := (h x).1 (by simp)
      have h2 := (h y).2 (by simp)
      rcases List.mem_cons.1 h1 with h1 | h1
      · exact h1
      · rcases List.mem_cons.1 h2 with h2 | h2
        · exact h2.symm
        · have := hb1 x h1
          have := ha1 y h2
          omega
    subst hxy
    rw [rise_eq a b ha2 hb2 fun z => ⟨fun hz => ?_, fun hz => ?_⟩]
    · have hz' := ha1 z hz
      rcases List.mem_cons.1 ((h z).1 (by simp [hz])) with e | e
      · omega
      · exact e
    · have hz' := hb1 z hz
      rcases List.mem_cons.1 ((h z).2 (by simp [hz])) with e | e
      · omega
      · exact e

theorem rise_snoc {l : List Int} {x : Int} (h : Rise l) (hx : ∀ o ∈ l, o < x) : Rise (l ++ [x]) := by
  refine List.pairwise_append.2 ⟨h, by simp, fun a ha b hb => ?_⟩
  simp at hb
  subst hb
  exact hx a ha

theorem or_one (A B C D : Prop) : ((A ∨ D) ∨ B ∨ C) ↔ (A ∨ (D ∨ B) ∨ C) := by
  by_cases a : A <;> by_cases b : B <;> by_cases c : C <;> by_cases d : D <;> simp [a, b, c, d]
theorem or_two (A B C D : Prop) : (((A ∨ C) ∨ D) ∨ B ∨ C) ↔ (A ∨ (D ∨ B) ∨ C) := by
  by_cases a : A <;> by_cases b : B <;> by_cases c : C <;> by_cases d : D <;> simp [a, b, c, d]

/-- What with makes of a state at its end. -/
def wres (n : Int) (s : List Int × Bool) : List Int := if s.2 then s.1 else s.1 ++ [n]

theorem wres_rise (n : Int) : ∀ (r : List Int) (o : List Int) (b : Bool), Rise r → Rise o → (∀ x ∈ o, ∀ y ∈ r, x < y) → (b = false → ∀ x ∈ o, x < n) → (b = true → n ∈ o) →
    Rise (wres n (r.foldl (wstep n) (o, b))) ∧ ∀ z, z ∈ wres n (r.foldl (wstep n) (o, b)) ↔ z ∈ o ∨ z ∈ r ∨ z = n
  | [], o, b, _, ho, _, hf, ht => by
    cases b
    · refine ⟨rise_snoc ho (hf rfl), fun z => ?_⟩
      simp [wres]
    · refine ⟨ho, fun z => ?_⟩
      have := ht rfl
      simp only [wres, List.foldl_nil, if_true, List.not_mem_nil, false_or]
      exact ⟨.inl, fun h => h.elim id (fun e => e ▸ this)⟩
  | x :: r, o, b, hr, ho, hor, hf, ht => by
    obtain ⟨hr1, hr2⟩ := List.pairwise_cons.1 hr
    have hox : ∀ a ∈ o, a < x := fun a ha => hor a ha x (by simp)
    have hoy : ∀ a ∈ o, ∀ y ∈ r, a < y := fun a ha y hy => hor a ha y (by simp [hy])
    rw [List.foldl_cons]
    cases b
    · by_cases h1 : n ≤ x
      · by_cases h2 : x = n
        · have e : wstep n (o, false) x = (o ++ [n], true) := by simp [wstep, h2]
          subst h2
          obtain ⟨g1, g2⟩ := wres_rise x r (o ++ [x]) true hr2 (rise_snoc ho hox) (by
            intro a ha y hy
            rcases List.mem_append.1 ha with ha | ha
            · exact hoy a ha y hy
            · simp at ha; subst ha; exact hr1 y hy) (fun h => by cases h) (fun _ => by simp)
          rw [e]
          refine ⟨g1, fun z => (g2 z).trans ?_⟩
          simp only [List.mem_append, List.mem_cons, List.not_mem_nil, or_false]
          exact or_one _ _ _ _
        · have e : wstep n (o, false) x = (o ++ [n] ++ [x], true) := by simp [wstep, h1, h2]
          obtain ⟨g1, g2⟩ := wres_rise n r (o ++ [n] ++ [x]) true hr2 (rise_snoc (rise_snoc ho (hf rfl)) (by
            intro a ha
            rcases List.mem_append.1 ha with ha | ha
            · exact hox a ha
            · simp at ha; omega)) (by
            intro a ha y hy
            have hxy := hr1 y hy
            rcases List.mem_append.1 ha with ha | ha
            · rcases List.mem_append.1 ha with ha | ha
              · exact hoy a ha y hy
              · simp at ha; omega
            · simp at ha; omega) (fun h => by cases h) (fun _ => by simp)
          rw [e]
          refine ⟨g1, fun z => (g2 z).trans ?_⟩
          simp only [List.mem_append, List.mem_cons, List.not_mem_nil, or_false]
          exact or_two _ _ _ _
      · have h2 : ¬ x = n := by omega
        have e : wstep n (o, false) x = (o ++ [x], false) := by simp [wstep, h1, h2]
        obtain ⟨g1, g2⟩ := wres_rise n r (o ++ [x]) false hr2 (rise_snoc ho hox) (by
          intro a ha y hy
          rcases List.mem_append.1 ha with ha | ha
          · exact hoy a ha y hy
          · simp at ha; subst ha; exact hr1 y hy) (fun _ a ha => by
          rcases List.mem_append.1 ha with ha | ha
          · exact hf rfl a ha
          · simp at ha; omega) (fun h => by cases h)
        rw [e]
        refine ⟨g1, fun z => (g2 z).trans ?_⟩
        simp only [List.mem_append, List.mem_cons, List.not_mem_nil, or_false]
        exact or_one _ _ _ _
    · have hn := ht rfl
      have h2 : ¬ x = n := by have := hox n hn; omega
      have e : wstep n (o, true) x = (o ++ [x], true) := by simp [wstep, h2]
      obtain ⟨g1, g2⟩ := wres_rise n r (o ++ [x]) true hr2 (rise_snoc ho hox) (by
        intro a ha y hy
        rcases List.mem_append.1 ha with ha | ha
        · exact hoy a ha y hy
        · simp at ha; subst ha; exact hr1 y hy) (fun h => by cases h) (fun _ => by simp [hn])
      rw [e]
      refine ⟨g1, fun z => (g2 z).trans ?_⟩
      simp only [List.mem_append, List.mem_cons, List.not_mem_nil, or_false]
      exact or_one _ _ _ _

theorem wth_rise (l : List Int) (n : Int) (h : Rise l) : Rise (wth l n) ∧ ∀ z, z ∈ wth l n ↔ z ∈ l ∨ z = n := by
  obtain ⟨g1, g2⟩ := wres_rise n l [] false h List.Pairwise.nil (by simp) (by simp) (by simp)
  refine ⟨g1, fun z => (g2 z).trans (by simp)⟩

theorem wths_rise (m : List Int) : ∀ l, Rise l → Rise (m.foldl wth l) ∧ ∀ z, z ∈ m.foldl wth l ↔ z ∈ l ∨ z ∈ m := by
  induction m with
  | nil => intro l h; exact ⟨h, fun z => by simp⟩
  | cons n m ih =>
    intro l h
    obtain ⟨g1, g2⟩ := wth_rise l n h
    obtain ⟨k1, k2⟩ := ih (wth l n) g1
    refine ⟨k1, fun z => (k2 z).trans ?_⟩
    rw [g2]
    simp [or_assoc]

end Go.Proofs.YtgnjgpplelakkaaGreat

/-
  The document's vars and Vars; Ints.
-/
namespace Go.Proofs.YtgnjgpplelakkaaGreat
open Go.RowKit Go.Shelf

/-- What vars has so far. -/
structure VI (W1 : World) (base : Nat) (v : Value) (k : Nat) (xs : List Int) (W : World) : Prop where
  row : W.ownsRow base 3 1 v k (xs.map (Value.int .i64))
  bel : Below W1.heap.size W1 W

theorem VI.len {W1 : World} {base : Nat} {v : Value} {k : Nat} {xs : List Int} {W : World} (h : VI W1 base v k xs W) : xs.length = k := by simpa using h.row.1

end Go.Proofs.YtgnjgpplelakkaaGreat

/-
  A range over an iterator of numbers that writes into blocks of its own.
-/
namespace Go.Proofs.YtgnjgpplelakkaaGreat
open Go.RowKit Go.Shelf

/-- What a call of yield does for the iterator. -/
def YieldsN (l : Nat) (w0 : World) (all : List Int) (J Jx : List Nat → List Int → World → Prop) : Prop :=
  ∀ E pre n W, J E pre W → Below w0.heap.size w0 W → (∃ rest, pre ++ n :: rest = all) →
    ∀ m, YieldAt Fence.wide m Tryz.prog l #[.int .i64 n] W fun e W' => (e = .returned (.bool true) ∧ J E (pre ++ [n]) W' ∧ Kept w0.heap.size E W W') ∨ (e = .returned (.bool false) ∧ Jx E (pre ++ [n]) W')

/-- What an iterator over numbers does, called in W. -/
def IterN (gf : Nat) (lb : Array Value) (w0 : World) (all : List Int) (W : World) : Prop :=
  ∀ (m l : Nat) (J Jx : List Nat → List Int → World → Prop), Abide J → YieldsN l w0 all J Jx → J [] [] W →
    CallsIn Fence.wide m Tryz.prog gf (#[.func (.yield l) #[] #[]] ++ lb) W fun e W' => (∃ v, e = .returned v) ∧ ((∃ E, J E all W') ∨ (∃ E pre, Jx E pre W'))

theorem range_num {ps : Array Tmp} {assign body : Code} {Q : Exit → Act → World → Prop} {a : Act} {w : World} {g : Operand} {gf : Nat} {lb : Array Value} {w0 : World} {all : List Int} (m : Nat)
    (hg : a.eval g = .func (.func gf) #[] lb) (eg : ∀ args w, (callFunc gf args).run Tryz.prog w = .ok (.enter gf args) w) (hps : ps.size = 1)
    (hseq : ∀ W, Below w.heap.size w W → IterN gf lb w0 all W)
    (I Ix : List Nat → List Int → World → Prop) (hI : Abide I) (hIx : Abide Ix) (h0 : I [] [] w) (hw0 : w0.heap.size ≤ w.heap.size) (hlow : ∀ E pre W, I E pre W → ∀ r ∈ E, r < W.heap.size)
    (Ax : Int → Act → World → Prop) (hAx : ∀ p a' W l r o, Ax p a' W → W.heap[l]? = some (.loop r) → Ax p a' (W.putObj l o))
    (hassign : ∀ (l : Nat) (p : Int) (W : World) (K : Act → World → Prop), (∀ a' W', Below W.heap.size W W' → Ax p a' W' → K a' W') →
      assign.wpIn (Fence.wide.inRound l) (m - 1) Tryz.prog (Exit.then K (fun _ _ _ => False)) { tmps := (ps.zip #[.int .i64 p]).foldl (fun t (p, v) => t.setIfInBounds p v) a.tmps, defers := [] } W)
    (hbody : ∀ (l : Nat) (E : List Nat) (pre : List Int) (p : Int) (a' : Act) (W : World), I E pre W → l ∈ E → Below w0.heap.size w0 W → (∃ rest, pre ++ p :: rest = all) → Ax p a' W →
      body.wpIn (Fence.wide.inRound l) (m - 1) Tryz.prog (endE w0.heap.size E I Ix (pre ++ [p]) W) a' W)
    (hdone : ∀ (D : Nat) (E : List Nat) (W : World), w.heap.size ≤ D → I E all W → D ∈ E → W.heap[D]? = some (.deferred (some [])) → Q .normal { a with defers := { target := .collected D, args := #[] } :: a.defers } W)
    (hstop : ∀ (D : Nat) (E : List Nat) (pre : List Int) (W : World), w.heap.size ≤ D → Ix E pre W → D ∈ E → W.heap[D]? = some (.deferred (some [])) → Code.ret.wpIn Fence.wide m Tryz.prog Q { a with defers := { target := .collected D, args := #[] } :: a.defers } W) :
    (Code.rangeFunc g ps assign body).wpIn Fence.wide m Tryz.prog Q a w := by
  refine wpIn_rangeFunc fun fn hfn => ?_
  let N := w.heap.size
  let lp : LoopState → Option Code → Obj := fun st pe => .loop { state := st, pending := pe, fn := fn, tmps := a.tmps, params := ps, assign := assign, body := body, defers := N }
  let W1 : World := (w.alloc (.deferred (some []))).alloc (lp .ready none)
  have hN : w.heap.size = N := rfl
  have hsz1 : W1.heap.size = N + 2 := by simp [W1, N]
  have hb1 : Below w.heap.size w W1 := below_box2 w _ _
  have hl1 : W1.heap[N + 1]? = some (lp .ready none) := by
    have := (MapKept.heap_alloc (w.alloc (.deferred (some []))) (lp .ready none)).1
    rwa [World.size_alloc] at this
  have hd1 : W1.heap[N]? = some (.deferred (some [])) := (Below.heap_alloc _ _ _ (by simp [N])).trans (MapKept.heap_alloc w _).1
  have hI1 : I [N, N + 1] [] W1 := by
    have g1 := World.grownBy_alloc w (.deferred (some [])) none
    have g2 := World.grownBy_alloc (w.alloc (.deferred (some []))) (lp .ready none) none
    have s1 : I [N] [] (w.alloc (.deferred (some []))) := hI _ _ _ _ _ _ h0 g1 (fun _ e => by cases e) (fun r hr => .inr (by simp at hr ⊢; omega))
    exact hI _ _ _ _ _ _ s1 g2 (fun _ e => by cases e) (fun r hr => by simp at hr ⊢; omega)
  refine ⟨N + 1, [{ target := .collected N, args := #[] }], W1, { target := .fn (.func gf) lb, args := #[.func (.yield (N + 1)) #[] #[]] }, W1, gf, #[.func (.yield (N + 1)) #[] #[]] ++ lb, W1, ?_, ?_, ?_, ?_, ?_, ?_⟩
  · exact run_enterLoop_outer _ _ _ _ _
  · simp only [resolve, hg]
    simp [go_sem]
  · intro f' _
    trivial
  · simp [invoke, go_sem, eg]
  · intro h
    cases h
  · let J : List Nat → List Int → World → Prop := fun E pre W => I (N :: (N + 1) :: E) pre W ∧ N ∉ E ∧ N + 1 ∉ E ∧ W.heap[N + 1]? = some (lp .ready none) ∧ W.heap[N]? = some (.deferred (some []))
    let Jx : List Nat → List Int → World → Prop := fun E pre W => Ix (N :: (N + 1) :: E) pre W ∧ W.heap[N + 1]? = some (lp .done (some .ret)) ∧ W.heap[N]? = some (.deferred (some []))
    have hJ : Abide J := by
      rintro E E' s W W' row ⟨hi, n1, n2, hl, hd⟩ hg' hr hE
      have lt : N + 1 < W.heap.size := (Array.getElem?_eq_some_iff.1 hl).1
      have m1 : N ∉ E' := fun h => by
        rcases hE _ h with h | h
        · exact n1 h
        · omega
      have m2 : N + 1 ∉ E' := fun h => by
        rcases hE _ h with h | h
        · exact n2 h
        · omega
      refine ⟨hI _ _ _ _ _ _ hi hg' (fun r e => by simp [hr r e]) (fun r h => ?_), m1, m2, (hg'.block _ lt (fun e => n2 (hr _ e.symm))).trans hl, (hg'.block _ (by omega) (fun e => n1 (hr _ e.symm))).trans hd⟩
      rcases List.mem_cons.1 h with rfl | h
      · exact .inl (by simp)
      · rcases List.mem_cons.1 h with rfl | h
        · exact .inl (by simp)
        · rcases hE _ h with h | h
          · exact .inl (by simp [h])
          · exact .inr h
    have hY : YieldsN (N + 1) w0 all J Jx := by
      rintro E pre p W ⟨hi, n1, n2, hl, hd⟩ hw hrest k
      have lt : N + 1 < W.heap.size := (Array.getElem?_eq_some_iff.1 hl).1
      have mem : N + 1 ∈ N :: (N + 1) :: E := by simp
      refine ⟨fn, _, assign, body, run_yield hl (by simp [hps]), RoundIn.mono ?_ fun _ _ h => h⟩
      have hround : RoundIn Fence.wide (m - 1) Tryz.prog (N + 1) fn ((ps.zip #[.int .i64 p]).foldl (fun t (p, v) => t.setIfInBounds p v) a.tmps) assign body W (fun e W' => (e = .returned (.bool true) ∧ J E (pre ++ [p]) W' ∧ Kept w0.heap.size E W W') ∨ (e = .returned (.bool false) ∧ Jx E (pre ++ [p]) W')) := by
        refine roundIn_of_wpIn hfn (hassign _ p W _ fun a' Wa hba hax => ?_)
        have hin : ∀ r ∈ N :: (N + 1) :: E, Wa.heap[r]? = W.heap[r]? := fun r hr => hba.block r (hlow _ _ _ hi r hr)
        have hla : Wa.heap[N + 1]? = some (lp .ready none) := (hin _ mem).trans hl
        have lta : N + 1 < Wa.heap.size := (Array.getElem?_eq_some_iff.1 hla).1
        refine ⟨_, run_beginRound hla rfl, ?_⟩
        let Wb : World := Wa.putObj (N + 1) (lp .busy none)
        have hlb : Wb.heap[N + 1]? = some (lp .busy none) := World.putObj_heap_same lta
        have hoa : ∀ r, r ≠ N + 1 → Wb.heap[r]? = Wa.heap[r]? := fun r hr => World.putObj_heap_other hr
        have hob : ∀ r ∈ N :: (N + 1) :: E, r ≠ N + 1 → Wb.heap[r]? = W.heap[r]? := fun r hr hne => (hoa r hne).trans (hin r hr)
        have hba0 : Below w0.heap.size W Wa := hba.mono (by omega)
        have hbb : Below w0.heap.size W Wb := hba0.trans ⟨rfl, rfl, rfl, by simp [Wb], fun k hk => hoa k (by omega)⟩
        have ga : W.grownBy Wa none := ⟨hba.os, hba.tape, hba.output, hba.size, fun k hk _ => hba.block k hk⟩
        have hia := hI _ _ _ _ _ _ hi ga (fun _ e => by cases e) (fun _ h => .inl h)
        refine wpIn_mono (hbody (N + 1) (N :: (N + 1) :: E) pre p a' Wb (hI.put _ hia mem) mem (hw.trans hbb) hrest (hAx _ _ _ _ _ _ hax hla)) ?_
        rintro e a3 W3 hp
        have fin : ∀ {jump : Option Code} {st : LoopState}, Kept w0.heap.size (N :: (N + 1) :: E) Wb W3 → (if jump.isNone then LoopState.ready else LoopState.done) = st →
            (Instr.endRound (N + 1) jump).run Tryz.prog W3 = .ok (.bool jump.isNone) (W3.putObj (N + 1) (lp st jump)) ∧ (W3.putObj (N + 1) (lp st jump)).heap[N + 1]? = some (lp st jump) ∧ (W3.putObj (N + 1) (lp st jump)).heap[N]? = some (.deferred (some [])) := by
          intro jump st hk hst
          have hl3 : W3.heap[N + 1]? = some (lp .busy none) := (hk.mine _ mem).trans hlb
          have hd3 : W3.heap[N]? = some (.deferred (some [])) := ((hk.mine _ (by simp)).trans (hob N (by simp) (by omega))).trans hd
          subst hst
          exact ⟨run_endRound jump hl3, World.putObj_heap_same (Array.getElem?_eq_some_iff.1 hl3).1, (World.putObj_heap_other (by omega)).trans hd3⟩
        cases e with
        | normal =>
          obtain ⟨hk, hi3⟩ := hp
          obtain ⟨h1, h2, h3⟩ := fin (jump := none) (st := .ready) hk rfl
          refine ⟨_, _, h1, .inl ⟨rfl, ⟨hI.put _ hi3 mem, n1, n2, h2, h3⟩, ?_⟩⟩
          refine ⟨hbb.trans (hk.below.trans ⟨rfl, rfl, rfl, by simp, fun k hk => World.putObj_heap_other (by omega)⟩), fun r hr => ?_⟩
          have hrn : r ≠ N + 1 := fun e => n2 (e ▸ hr)
          exact ((World.putObj_heap_other hrn).trans (hk.mine r (by simp [hr]))).trans (hob r (by simp [hr]) hrn)
        | ret =>
          obtain ⟨hk, hi3⟩ := hp
          obtain ⟨h1, h2, h3⟩ := fin (jump := some .ret) (st := .done) hk rfl
          exact ⟨_, _, h1, .inr ⟨rfl, hIx.put _ hi3 mem, h2, h3⟩⟩
        | exit id => exact hp.elim
        | goto t => exact hp.elim
        | panic ch => exact hp.elim
        | outgrown => exact hp.elim
      exact ⟨hround.1, fun c cs _ => hround.2 c cs (room_wide _)⟩
    refine (hseq W1 hb1 (m - 1) (N + 1) J Jx hJ hY ⟨hI1, by simp, by simp, hl1, hd1⟩).mono ?_
    rintro e W2 ⟨⟨v, rfl⟩, (⟨E, hi, n1, n2, hl, hd⟩ | ⟨E, pre, hi, hl, hd⟩)⟩
    · exact ⟨none, _, run_endLoop hl (by simp), hdone N _ _ (Nat.le_refl _) (hI.put _ hi (by simp)) (by simp) ((World.putObj_heap_other (by omega)).trans hd)⟩
    · exact ⟨some .ret, _, run_endLoop hl (by simp), hstop N _ pre _ (Nat.le_refl _) (hIx.put _ hi (by simp)) (by simp) ((World.putObj_heap_other (by omega)).trans hd)⟩

end Go.Proofs.YtgnjgpplelakkaaGreat

/-
  subst.numbers: the iterator over a term's variables.
-/
namespace Go.Proofs.YtgnjgpplelakkaaGreat
open Go.RowKit Go.Shelf

attribute [local go_sem] Oper.semAt_some

/-- What lies in the iterator's blocks. -/
structure ItN (w0 : World) (l Y Wb : Nat) (E : List Nat) (W : World) : Prop where
  y : Boxed W Y 103 (.func (.yield l) #[] #[])
  k : Boxed W Wb 93 (.func (.func 82) #[] #[.pointer (some ⟨Y, 0, none⟩), .pointer (some ⟨Wb, 0, none⟩)])
  my : Y ∈ E
  mw : Wb ∈ E
  bel : Below w0.heap.size w0 W

theorem ItN.kept {w0 : World} {l Y Wb : Nat} {E : List Nat} {W W' : World} (h : ItN w0 l Y Wb E W) (hk : Kept w0.heap.size E W W') : ItN w0 l Y Wb E W' :=
  { h with y := (hk.mine Y h.my).trans h.y, k := (hk.mine Wb h.mw).trans h.k, bel := h.bel.trans hk.below }

theorem ItN.alloc {w0 : World} {l Y Wb : Nat} {E : List Nat} {W : World} (h : ItN w0 l Y Wb E W) (o : Obj) : ItN w0 l Y Wb E (W.alloc o) :=
  { h with y := h.y.alloc o, k := h.k.alloc o, bel := h.bel.alloc h.bel.size _ }

theorem ItN.more {w0 : World} {l Y Wb : Nat} {E E' : List Nat} {W : World} (h : ItN w0 l Y Wb E W) (hE : ∀ r ∈ E, r ∈ E') : ItN w0 l Y Wb E' W :=
  { h with my := hE _ h.my, mw := hE _ h.mw }

/-- What the closure walk does at p. -/
def WalkN (w0 : World) (l Y Wb : Nat) (all : List Int) (J Jx : List Nat → List Int → World → Prop) (p : T) : Prop :=
  ∀ (m : Nat) (sl : Value) (W : World) (E : List Nat) (pre : List Int), ItN w0 l Y Wb E W → J E pre W → ArgsAt w0 sl p.args → (∃ rest, pre ++ p.vs ++ rest = all) →
    CallsIn Fence.wide m Tryz.prog 82 #[tval p sl, .pointer (some ⟨Y, 0, none⟩), .pointer (some ⟨Wb, 0, none⟩)] W fun e W' =>
      (e = .returned (.bool true) ∧ ∃ E', ItN w0 l Y Wb E' W' ∧ J E' (pre ++ p.vs) W' ∧ (∀ r ∈ E, r ∈ E')) ∨ (e = .returned (.bool false) ∧ ∃ E' pre', Jx E' pre' W')

/-- The variables of the first k. -/
def vsTo (l : List T) (k : Nat) : List Int := ((l.take k).map T.vs).flatten
theorem vsTo_succ (l : List T) (k : Nat) (h : k < l.length) : vsTo l (k + 1) = vsTo l k ++ l[k].vs := by
  unfold vsTo
  rw [List.take_succ_eq_append_getElem h, List.map_append, List.flatten_append]
  simp
theorem vsTo_all (l : List T) : vsTo l l.length = (l.map T.vs).flatten := by unfold vsTo; rw [List.take_length]
theorem vsTo_split (l : List T) (k : Nat) (h : k < l.length) : (l.map T.vs).flatten = vsTo l k ++ l[k].vs ++ ((l.drop (k + 1)).map T.vs).flatten := by
  have h3 : l = l.take k ++ l[k] :: l.drop (k + 1) := by rw [List.getElem_cons_drop, List.take_append_drop]
  conv => lhs; rw [h3]
  unfold vsTo
  rw [List.map_append, List.flatten_append, List.map_cons, List.flatten_cons, List.append_assoc]

/-- The walk's loop over the arguments, behind what was yielded. -/
theorem own_new {J : List Nat → List Int → World → Prop} (hJ : Abide J) {E : List Nat} {pre : List Int} {W : World} (hj : J E pre W) (o : Obj) : J (W.heap.size :: E) pre (W.alloc o) :=
  hJ _ _ _ _ _ _ hj (World.grownBy_alloc W _ none) (fun _ e => by cases e) (fun r hr => by rcases List.mem_cons.1 hr with rfl | h; exact .inr ⟨Nat.le_refl _, by simp⟩; exact .inl h)

set_option maxRecDepth 100000 in
set_option maxHeartbeats 2000000 in
theorem walkn_fn (w0 : World) (l Y Wb : Nat) (all : List Int) (J Jx : List Nat → List Int → World → Prop) (hJ : Abide J) (p : T)
    (ih : ∀ a ∈ p.args, WalkN w0 l Y Wb all J Jx a) (h0 : p.fn.size ≠ 0) : WalkN w0 l Y Wb all J Jx p := by
  intro m sl W E pre hS hj ha hrest
  obtain ⟨a, c, rfl, hc, hm⟩ := ha.slice
  have hvs : p.vs = (p.args.map T.vs).flatten := by rw [p.vs_eq, if_neg h0]; rfl
  rw [hvs] at hrest ⊢
  obtain ⟨rest, hrest⟩ := hrest
  have hS1 := (hS.alloc (tbox p (.slice a p.args.length c))).more (E' := W.heap.size :: E) (fun r hr => by simp [hr])
  have hj1 := own_new hJ hj (tbox p (.slice a p.args.length c))
  have hdd : p.fn.toList.isEmpty = false := by rw [ba_isEmpty]; exact decide_eq_false h0
  obtain ⟨t0, t1, t2⟩ := tbox_cells W p (.slice a p.args.length c)
  have HA : Hid (ArgsAt w0 (.slice a p.args.length c) p.args) := ha
  have HIH : Hid (∀ a ∈ p.args, WalkN w0 l Y Wb all J Jx a) := ih
  have HS1 : Hid (ItN w0 l Y Wb (W.heap.size :: E) (W.alloc (tbox p (.slice a p.args.length c))) ∧ J (W.heap.size :: E) pre (W.alloc (tbox p (.slice a p.args.length c)))) := ⟨hS1, hj1⟩
  clear h0 hS hj hvs ih ha hS1 hj1
  refine callsIn_of_wp Tryz.func82 rfl trivial ?_ rfl
  simp only [Tryz.ntmps82, List.size_toArray, List.length_cons, List.length_nil, Nat.reduceAdd, Nat.reduceSub, Array.replicate_succ, Array.replicate_zero, List.push_toArray, List.append_toArray, List.nil_append, List.cons_append]
  gi_wp2
  refine ⟨fun f h => (by cases h), ?_⟩
  gi_wp2
  gi_loopw [20] (fun i wr => ∃ (k : Nat) (E' : List Nat), k ≤ p.args.length ∧ i = .int .i64 k ∧ Hid (ItN w0 l Y Wb E' wr ∧ J E' (pre ++ vsTo p.args k) wr ∧ (∀ r ∈ E, r ∈ E'))) (fun i _ => p.args.length - (intOf i).toNat)
  case atStart => exact ⟨0, _, Nat.zero_le _, rfl, HS1.out.1, by simpa [vsTo] using HS1.out.2, fun r hr => by simp [hr]⟩
  case round =>
    obtain ⟨k, E', hk, rfl, hS3, hj3, hE3⟩ := hrel
    by_cases hlt : k < p.args.length
    · have haw := ArgsAt.keep hS3.bel (Nat.le_refl _) HA.out
      obtain ⟨ba, oa, s, e1, hba, a0, a1, a2, hsw⟩ := haw.nth hlt
      obtain ⟨b', o', s', e2, _, _, _, c2', hs⟩ := HA.out.nth hlt
      cases e1
      have hss : s' = s := by
        cases e2
        have := (hS3.bel.cell (p := ⟨ba, oa + k * 3 + 2, none⟩) (World.block_lt_of_cell? w0 _ c2')).trans c2'
        rw [a2] at this
        exact (Option.some.inj this).symm
      subst hss
      clear e2 c2' haw hsw
      obtain ⟨aa, cs, rfl, _, _⟩ := hs.slice
      have hin : pre ++ vsTo p.args k ++ p.args[k].vs ++ (((p.args.drop (k + 1)).map T.vs).flatten ++ rest) = all := by
        rw [← hrest, vsTo_split p.args k hlt]
        simp [List.append_assoc]
      have hS4 := hS3.alloc (tbox p.args[k] (.slice aa p.args[k].args.length cs))
      have hj4 : J E' (pre ++ vsTo p.args k) (wr.alloc (tbox p.args[k] (.slice aa p.args[k].args.length cs))) := hJ _ _ _ _ _ _ hj3 (World.grownBy_alloc wr _ none) (fun _ e => by cases e) (fun r hr => .inl hr)
      obtain ⟨u0, u1, u2⟩ := tbox_cells wr p.args[k] (.slice aa p.args[k].args.length cs)
      have ck := hS4.k.cell
      have hcall := HIH.out p.args[k] (List.getElem_mem hlt) (m - 1) _ _ E' _ hS4 hj4 hs ⟨_, hin⟩
      have HN : Hid (vsTo p.args (k + 1) = vsTo p.args k ++ p.args[k].vs) := vsTo_succ p.args k hlt
      have HE3 : Hid (∀ r ∈ E, r ∈ E') := hE3
      clear hS3 hj3 hS4 hj4 hs hin hE3
      gi_wp2_with fail
      refine ⟨trivial, fun h => (by cases h), hcall.mono ?_⟩
      rintro e W6 (⟨rfl, E6, hS6, hj6, hE6⟩ | ⟨rfl, E6, pre6, hx6⟩)
      · gi_wp2
        refine ⟨⟨k + 1, E6, by omega, by go_num, hS6, by rw [HN.out, ← List.append_assoc]; exact hj6, fun r hr => hE6 r (HE3.out r hr)⟩, by simp [intOf]; omega⟩
      · gi_wp2
        go_ret
        exact .inr ⟨rfl, _, _, hx6⟩
    · have hke : k = p.args.length := by omega
      subst hke
      have HF : Hid (ItN w0 l Y Wb E' wr ∧ J E' (pre ++ (p.args.map T.vs).flatten) wr ∧ (∀ r ∈ E, r ∈ E')) := ⟨hS3, by rw [← vsTo_all]; exact hj3, hE3⟩
      clear hS3 hj3 hE3
      gi_wp2
      go_ret
      exact .inl ⟨rfl, E', HF.out⟩

end Go.Proofs.YtgnjgpplelakkaaGreat

/-
  subst.numbers, whole, at one term of the right shape.
-/
namespace Go.Proofs.YtgnjgpplelakkaaGreat
open Go.RowKit Go.Shelf

attribute [local go_sem] Oper.semAt_some

set_option maxRecDepth 100000 in
set_option maxHeartbeats 2000000 in
theorem walkn_var (w0 : World) (l Y Wb : Nat) (all : List Int) (J Jx : List Nat → List Int → World → Prop) (hJ : Abide J) (hY : YieldsN l w0 all J Jx) (p : T) (h0 : p.fn.size = 0) (ha0 : p.args = []) : WalkN w0 l Y Wb all J Jx p := by
  intro m sl W E pre hS hj ha hrest
  have hvs : p.vs = [p.v] := by rw [p.vs_eq, if_pos h0, ha0]; rfl
  rw [hvs] at hrest ⊢
  have hal : p.args.length = 0 := by rw [ha0]; rfl
  obtain ⟨a, c, rfl, hc, hm⟩ := ha.slice
  rw [hal]
  obtain ⟨rest, hrest⟩ := hrest
  have hS1 := (hS.alloc (tbox p (.slice a 0 c))).more (E' := W.heap.size :: E) (fun r hr => by simp [hr])
  have hj1 := own_new hJ hj (tbox p (.slice a 0 c))
  have hy := hY _ pre p.v _ hj1 hS1.bel ⟨rest, by rw [← hrest]; simp⟩ (m - 1)
  have hdd : p.fn.toList.isEmpty = true := by rw [ba_isEmpty]; exact decide_eq_true h0
  obtain ⟨t0, t1, t2⟩ := tbox_cells W p (.slice a 0 c)
  have cy := hS1.y.cell
  obtain ⟨fn, tmps, assign, body, hyr, hR⟩ := hy
  have HS1 : Hid (ItN w0 l Y Wb (W.heap.size :: E) (W.alloc (tbox p (.slice a 0 c)))) := hS1
  clear h0 hS hj hvs ha hS1 hj1 hal ha0 hc
  refine callsIn_of_wp Tryz.func82 rfl trivial ?_ rfl
  simp only [Tryz.ntmps82, List.size_toArray, List.length_cons, List.length_nil, Nat.reduceAdd, Nat.reduceSub, Array.replicate_succ, Array.replicate_zero, List.push_toArray, List.append_toArray, List.nil_append, List.cons_append]
  gi_wp2_with fail
  refine ⟨fun h => (by cases h), ?_⟩
  refine hR.mono ?_
  clear hR
  rintro e W2 (⟨rfl, hj2, hk2⟩ | ⟨rfl, hx⟩)
  · have hbox : W2.heap[W.heap.size]? = some (.cells [Value.int .i64 p.v, .string p.fn, .slice a 0 c].toArray 28 (0, 0)) := (hk2.mine _ (by simp)).trans (MapKept.heap_alloc W _).1
    have b2 : W2.cell? ⟨W.heap.size, 2, none⟩ = some (.slice a 0 c) := by rw [cell_of_row _ _ _ _ 28 (0, 0) hbox]; rfl
    have HF : Hid (ItN w0 l Y Wb (W.heap.size :: E) W2 ∧ J (W.heap.size :: E) (pre ++ [p.v]) W2 ∧ (∀ r ∈ E, r ∈ W.heap.size :: E)) := ⟨HS1.out.kept hk2, hj2, fun r hr => by simp [hr]⟩
    clear hyr cy t0 t1 t2 hk2 hbox hj2
    gi_wp2
    gi_loopw [20] (fun i wr => i = .int .i64 0 ∧ wr = W2) (fun i _ => 0)
    case atStart => exact ⟨rfl, rfl⟩
    case round =>
      obtain ⟨rfl, rfl⟩ := hrel
      gi_wp2
      go_ret
      exact .inl ⟨rfl, _, HF.out⟩
  · gi_wp2
    go_ret
    exact .inr ⟨rfl, _, _, hx⟩

theorem walkn_any (w0 : World) (l Y Wb : Nat) (all : List Int) (J Jx : List Nat → List Int → World → Prop) (hJ : Abide J) (hY : YieldsN l w0 all J Jx) (p : T) : p.shape = true → WalkN w0 l Y Wb all J Jx p := by
  induction p using T.ind with
  | _ p ih =>
    intro hs
    rw [T.shape_eq] at hs
    by_cases h0 : p.fn.size = 0
    · rw [if_pos h0] at hs
      simp only [Bool.and_eq_true, decide_eq_true_eq] at hs
      exact walkn_var w0 l Y Wb all J Jx hJ hY p h0 (List.eq_nil_of_length_eq_zero hs.2)
    · rw [if_neg h0] at hs
      simp only [Bool.and_eq_true, decide_eq_true_eq, List.all_eq_true] at hs
      exact walkn_fn w0 l Y Wb all J Jx hJ p (fun a ha => ih a ha (hs.2 a ha)) h0

end Go.Proofs.YtgnjgpplelakkaaGreat

/-
  subst.numbers: the iterator.
-/
namespace Go.Proofs.YtgnjgpplelakkaaGreat
open Go.RowKit Go.Shelf

attribute [local go_sem] Oper.semAt_some

set_option maxRecDepth 100000 in
set_option maxHeartbeats 2000000 in
theorem itern_any (w0 : World) (Bl Bt : Nat) (t : T) (sl : Value) (W : World) (hb : Below w0.heap.size w0 W) (hbl : W.cell? ⟨Bl, 0, none⟩ = some (.slice (some ⟨Bt, 0, none⟩) 1 1)) (hbx : W.heap[Bt]? = some (.cells [Value.int .i64 t.v, .string t.fn, sl].toArray 28 (0, 0))) (ha : ArgsAt w0 sl t.args) (hsh : t.shape = true) :
    IterN 81 #[.pointer (some ⟨Bl, 0, none⟩)] w0 t.vs W := by
  intro m l J Jx hJ hY hj
  have hw := walkn_any w0 l W.heap.size (W.heap.size + 1) t.vs J Jx hJ hY t hsh
  have c0 : W.cell? ⟨Bt, 0, none⟩ = some (.int .i64 t.v) := by rw [cell_of_row _ _ _ _ 28 (0, 0) hbx]; rfl
  have c1 : W.cell? ⟨Bt, 1, none⟩ = some (.string t.fn) := by rw [cell_of_row _ _ _ _ 28 (0, 0) hbx]; rfl
  have c2 : W.cell? ⟨Bt, 2, none⟩ = some sl := by rw [cell_of_row _ _ _ _ 28 (0, 0) hbx]; rfl
  have hBlt : Bt < W.heap.size := (Array.getElem?_eq_some_iff.1 hbx).1
  have hLlt : Bl < W.heap.size := World.block_lt_of_cell? _ _ hbl
  obtain ⟨fv, hfv⟩ : ∃ fv : Value, fv = .func (.func 82) #[] #[.pointer (some ⟨W.heap.size, 0, none⟩), .pointer (some ⟨W.heap.size + 1, 0, none⟩)] := ⟨_, rfl⟩
  have y0 := Boxed.new W 103 (.func (.yield l) #[] #[])
  have k0 := Boxed.new (W.alloc (.cells #[.func (.yield l) #[] #[]] 103)) 93 fv
  rw [World.size_alloc] at k0
  have y1 := y0.alloc (.cells #[fv] 93)
  have b3 : Below w0.heap.size W ((W.alloc (.cells #[.func (.yield l) #[] #[]] 103)).alloc (.cells #[fv] 93)) := ((Below.refl _ _).alloc hb.size _).alloc (by have := hb.size; simp; omega) _
  have hS : ItN w0 l W.heap.size (W.heap.size + 1) [W.heap.size, W.heap.size + 1] ((W.alloc (.cells #[.func (.yield l) #[] #[]] 103)).alloc (.cells #[fv] 93)) :=
    { y := y1, k := hfv ▸ k0, my := by simp, mw := by simp, bel := hb.trans b3 }
  have hj3 : J [W.heap.size, W.heap.size + 1] [] ((W.alloc (.cells #[.func (.yield l) #[] #[]] 103)).alloc (.cells #[fv] 93)) := by
    have g13 : W.grownBy ((W.alloc (.cells #[.func (.yield l) #[] #[]] 103)).alloc (.cells #[fv] 93)) none := ⟨rfl, rfl, rfl, by simp; omega, fun i hi _ => by rw [Below.heap_alloc _ _ _ (by simp; omega), Below.heap_alloc _ _ _ hi]⟩
    exact hJ _ _ _ _ _ _ hj g13 (fun _ e => by cases e) (fun r hr => .inr (by simp at hr ⊢; omega))
  have bW : Below W.heap.size W ((W.alloc (.cells #[.func (.yield l) #[] #[]] 103)).alloc (.cells #[fv] 93)) := ((Below.refl _ _).alloc (Nat.le_refl _) _).alloc (by simp) _
  have c0' := kc bW hBlt c0
  have c1' := kc bW hBlt c1
  have c2' := kc bW hBlt c2
  have cl' := kc bW hLlt hbl
  have hS4 := hS.alloc (tbox t sl)
  have hj4 : J [W.heap.size, W.heap.size + 1] [] (((W.alloc (.cells #[.func (.yield l) #[] #[]] 103)).alloc (.cells #[fv] 93)).alloc (tbox t sl)) := hJ _ _ _ _ _ _ hj3 (World.grownBy_alloc _ _ none) (fun _ e => by cases e) (fun r hr => .inl hr)
  have hcall := hw (m - 1) sl _ _ [] hS4 hj4 ha ⟨[], by simp⟩
  have ck := hS4.k.cell
  obtain ⟨u0, u1, u2⟩ := tbox_cells ((W.alloc (.cells #[.func (.yield l) #[] #[]] 103)).alloc (.cells #[fv] 93)) t sl
  rw [hfv] at hcall c0' c1' c2' cl' ck u0 u1 u2
  clear c0 c1 c2 bW hS hj3 hw y0 k0 y1 b3 hY hj hbx hS4 hj4 hbl hfv
  obtain ⟨sa, sc, rfl, _, _⟩ := ha.slice
  clear ha
  refine callsIn_of_wp Tryz.func81 rfl trivial ?_ rfl
  simp only [Tryz.ntmps81, List.size_toArray, List.length_cons, List.length_nil, Nat.reduceAdd, Nat.reduceSub, Array.replicate_succ, Array.replicate_zero, List.push_toArray, List.append_toArray, List.nil_append, List.cons_append]
  gi_wp2
  obtain ⟨W3, hW3⟩ : ∃ W3, (W.alloc (.cells #[.func (.yield l) #[] #[]] 103)).alloc (.cells #[.func (.func 82) #[] #[.pointer (some ⟨W.heap.size, 0, none⟩), .pointer (some ⟨W.heap.size + 1, 0, none⟩)]] 93) = W3 := ⟨_, rfl⟩
  simp only [hW3] at *
  gi_loopw [9] (fun i wr => (i = .int .i64 0 ∧ wr = W3) ∨ (i = .int .i64 1 ∧ Hid (∃ E, J E t.vs wr))) (fun i _ => 1 - (intOf i).toNat)
  case atStart => exact .inl ⟨rfl, rfl⟩
  case round =>
    rcases hrel with ⟨rfl, rfl⟩ | ⟨rfl, hE⟩
    · gi_wp2_with fail
      refine ⟨trivial, fun h => (by cases h), hcall.mono ?_⟩
      rintro e W6 (⟨rfl, E6, hS6, hj6, hE6⟩ | ⟨rfl, E6, pre6, hx6⟩)
      · gi_wp2
        refine ⟨.inr ⟨by go_num, E6, by simpa using hj6⟩, by simp [intOf]⟩
      · gi_wp2
        refine bodyPost_ret (results_none rfl _ _ _) rfl ?_
        exact ⟨⟨_, rfl⟩, .inr ⟨E6, pre6, hx6⟩⟩
    · have HE : Hid (∃ E, J E t.vs wr) := hE
      clear hE
      gi_wp2
      refine bodyPost_end (results_none rfl _ _ _) rfl ?_
      exact ⟨⟨_, rfl⟩, .inl HE.out⟩

end Go.Proofs.YtgnjgpplelakkaaGreat
