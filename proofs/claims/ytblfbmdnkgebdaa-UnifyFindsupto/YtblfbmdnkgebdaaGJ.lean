import Derived.Test.YtblfbmdnkgebdaaPF
import Derived.Test.YtblfbmdnkgebdaaGC
import Derived.Test.YtblfbmdnkgebdaaGF
import Derived.RegionTactic

/-
  Unification by classes of parts: mathematics.
-/
namespace Go.Proofs.Ytblfbmdnkgebdaa
open Go.RowKit

/-- The parts of two terms: of node i its term, and the node of its first argument. -/
structure Lay (a b : T) (n : Nat) (tm : Nat → T) (fs : Nat → Nat) : Prop where
  two : 2 ≤ n
  n0 : tm 0 = a
  n1 : tm 1 = b
  kids : ∀ i, i < n → ∀ l (hl : l < (tm i).args.length), fs i + l < n ∧ tm (fs i + l) = (tm i).args[l]
  par : ∀ i, i < n → 2 ≤ i → ∃ p l, p < i ∧ l < (tm p).args.length ∧ i = fs p + l
  vnil : ∀ i, i < n → uvar (tm i) = true → (tm i).args = []
  fnv : ∀ i, i < n → uvar (tm i) = false → (tm i).v = 0

/-- It keeps to the classes, and to what must become one. -/
def Resp (n : Nat) (h : Nat → Nat) (ps : List (Nat × Nat)) (g : Nat → Nat) : Prop := (∀ i, i < n → g i = g (h i)) ∧ ∀ p ∈ ps, g p.1 = g p.2

/-- Classes by their heads; pairs that are still to become one. -/
structure UInv (a b : T) (n : Nat) (tm : Nat → T) (fs h : Nat → Nat) (ps : List (Nat × Nat)) : Prop where
  lt : ∀ i, i < n → h i < n
  idem : ∀ i, i < n → h (h i) = h i
  plt : ∀ p ∈ ps, p.1 < n ∧ p.2 < n
  snd : ∀ θ, a.app θ = b.app θ → (∀ i, i < n → (tm i).app θ = (tm (h i)).app θ) ∧ ∀ p ∈ ps, (tm p.1).app θ = (tm p.2).app θ
  head : ∀ i, i < n → uvar (tm (h i)) = true → uvar (tm i) = true ∧ (tm (h i)).v ≤ (tm i).v
  cong : ∀ i, i < n → ∀ j, j < n → h i = h j → uvar (tm i) = false → uvar (tm j) = false → (tm i).fn = (tm j).fn ∧ (tm i).args.length = (tm j).args.length ∧ ∀ g, Resp n h ps g → ∀ l, l < (tm i).args.length → g (fs i + l) = g (fs j + l)
  top : ∀ g, Resp n h ps g → g 0 = g 1
  vars : ∀ i, i < n → ∀ j, j < n → uvar (tm i) = true → uvar (tm j) = true → (tm i).v = (tm j).v → h i = h j

theorem UInv.drop {a b : T} {n : Nat} {tm : Nat → T} {fs h : Nat → Nat} {x y : Nat} {ps : List (Nat × Nat)} (H : UInv a b n tm fs h ((x, y) :: ps)) (e : h x = h y) : UInv a b n tm fs h ps := by
  have hp := H.plt (x, y) List.mem_cons_self
  have hr : ∀ g, Resp n h ps g → Resp n h ((x, y) :: ps) g := fun g hg => by
    refine ⟨hg.1, fun p hm => ?_⟩
    rcases List.mem_cons.1 hm with rfl | hm
    · show g x = g y
      rw [hg.1 x hp.1, hg.1 y hp.2, e]
    · exact hg.2 p hm
  exact ⟨H.lt, H.idem, fun p hm => H.plt p (List.mem_cons_of_mem _ hm), fun θ hθ => ⟨(H.snd θ hθ).1, fun p hm => (H.snd θ hθ).2 p (List.mem_cons_of_mem _ hm)⟩, H.head, fun i hi j hj e fi fj => ⟨(H.cong i hi j hj e fi fj).1, (H.cong i hi j hj e fi fj).2.1, fun g hg => (H.cong i hi j hj e fi fj).2.2 g (hr g hg)⟩, fun g hg => H.top g (hr g hg), H.vars⟩

/-- The heads behind a join. -/
def jn (h : Nat → Nat) (X Y : Nat) : Nat → Nat := fun i => if h i = Y then X else h i
theorem jn_pos {h : Nat → Nat} {X Y i : Nat} (e : h i = Y) : jn h X Y i = X := by unfold jn; rw [if_pos e]
theorem jn_neg {h : Nat → Nat} {X Y i : Nat} (e : h i ≠ Y) : jn h X Y i = h i := by unfold jn; rw [if_neg e]

theorem UInv.fn_head {a b : T} {n : Nat} {tm : Nat → T} {fs h : Nat → Nat} {ps : List (Nat × Nat)} (H : UInv a b n tm fs h ps) {i : Nat} (hi : i < n) (f : uvar (tm i) = false) : uvar (tm (h i)) = false := by
  cases e : uvar (tm (h i)) with
  | false => rfl
  | true => rw [(H.head i hi e).1] at f; cases f

theorem UInv.join {a b : T} {n : Nat} {tm : Nat → T} {fs h : Nat → Nat} {x y : Nat} {ps : List (Nat × Nat)} (H : UInv a b n tm fs h ((x, y) :: ps)) (X Y : Nat) (hXY : (X = h x ∧ Y = h y) ∨ (X = h y ∧ Y = h x)) (hne : h x ≠ h y)
    (c1 : uvar (tm X) = true → uvar (tm Y) = true ∧ (tm X).v ≤ (tm Y).v) (qs : List (Nat × Nat)) (q1 : ∀ p ∈ qs, p.1 < n ∧ p.2 < n) (q2 : ∀ θ, a.app θ = b.app θ → ∀ p ∈ qs, (tm p.1).app θ = (tm p.2).app θ)
    (q3 : uvar (tm X) = false → uvar (tm Y) = false → (tm X).fn = (tm Y).fn ∧ (tm X).args.length = (tm Y).args.length ∧ ∀ g : Nat → Nat, (∀ p ∈ qs, g p.1 = g p.2) → ∀ l, l < (tm X).args.length → g (fs X + l) = g (fs Y + l)) :
    UInv a b n tm fs (jn h X Y) (qs ++ ps) := by
  have hp := H.plt (x, y) List.mem_cons_self
  have hX : h X = X ∧ X < n := by rcases hXY with ⟨rfl, _⟩ | ⟨rfl, _⟩ <;> exact ⟨H.idem _ (by first | exact hp.1 | exact hp.2), H.lt _ (by first | exact hp.1 | exact hp.2)⟩
  have hY : h Y = Y ∧ Y < n := by rcases hXY with ⟨_, rfl⟩ | ⟨_, rfl⟩ <;> exact ⟨H.idem _ (by first | exact hp.1 | exact hp.2), H.lt _ (by first | exact hp.1 | exact hp.2)⟩
  have hXne : X ≠ Y := by rcases hXY with ⟨rfl, rfl⟩ | ⟨rfl, rfl⟩; exact hne; exact fun e => hne e.symm
  have jX : jn h X Y X = X := by rw [jn_neg (by rw [hX.1]; exact hXne), hX.1]
  have jY : jn h X Y Y = X := jn_pos hY.1
  have jh : ∀ i, i < n → jn h X Y (h i) = jn h X Y i := fun i hi => by unfold jn; rw [H.idem i hi]
  have hres : ∀ g, Resp n (jn h X Y) (qs ++ ps) g → Resp n h ((x, y) :: ps) g ∧ ∀ p ∈ qs, g p.1 = g p.2 := fun g hg => by
    have gi : ∀ i, i < n → g i = g (h i) := fun i hi => by rw [hg.1 i hi, hg.1 (h i) (H.lt i hi), jh i hi]
    have gX : g X = g Y := by rw [hg.1 Y hY.2, jY]
    refine ⟨⟨gi, fun p hm => ?_⟩, fun p hm => hg.2 p (List.mem_append_left _ hm)⟩
    rcases List.mem_cons.1 hm with rfl | hm
    · show g x = g y
      rw [gi x hp.1, gi y hp.2]
      rcases hXY with ⟨rfl, rfl⟩ | ⟨rfl, rfl⟩
      · exact gX
      · exact gX.symm
    · exact hg.2 p (List.mem_append_right _ hm)
  refine ⟨fun i hi => ?_, fun i hi => ?_, fun p hm => ?_, fun θ hθ => ?_, fun i hi hv => ?_, fun i hi j hj e fi fj => ?_, fun g hg => H.top g (hres g hg).1, fun i hi j hj vi vj e => ?_⟩
  · unfold jn; split
    · exact hX.2
    · exact H.lt i hi
  · by_cases e : h i = Y
    · rw [jn_pos e, jX]
    · rw [jn_neg e, jh i hi, jn_neg e]
  · rcases List.mem_append.1 hm with hm | hm
    · exact q1 p hm
    · exact H.plt p (List.mem_cons_of_mem _ hm)
  · have hs := H.snd θ hθ
    have hxy : (tm X).app θ = (tm Y).app θ := by
      have e := hs.2 (x, y) List.mem_cons_self
      have e : (tm x).app θ = (tm y).app θ := e
      rw [hs.1 x hp.1, hs.1 y hp.2] at e
      rcases hXY with ⟨rfl, rfl⟩ | ⟨rfl, rfl⟩
      · exact e
      · exact e.symm
    refine ⟨fun i hi => ?_, fun p hm => ?_⟩
    · by_cases e : h i = Y
      · rw [jn_pos e, hxy, hs.1 i hi, e]
      · rw [jn_neg e]; exact hs.1 i hi
    · rcases List.mem_append.1 hm with hm | hm
      · exact q2 θ hθ p hm
      · exact hs.2 p (List.mem_cons_of_mem _ hm)
  · by_cases e : h i = Y
    · rw [jn_pos e] at hv ⊢
      obtain ⟨h1, h2⟩ := c1 hv
      have h3 := H.head i hi (by rw [e]; exact h1)
      rw [e] at h3
      exact ⟨h3.1, Int.le_trans h2 h3.2⟩
    · rw [jn_neg e] at hv ⊢
      exact H.head i hi hv
  · have mixed : ∀ i, i < n → ∀ j, j < n → uvar (tm i) = false → uvar (tm j) = false → h i = Y → h j = X → ((tm i).fn = (tm j).fn ∧ (tm i).args.length = (tm j).args.length ∧ ∀ g, Resp n (jn h X Y) (qs ++ ps) g → ∀ l, l < (tm i).args.length → g (fs i + l) = g (fs j + l)) := fun i hi j hj fi fj ei ej => by
      have fX : uvar (tm X) = false := by rw [← ej]; exact H.fn_head hj fj
      have fY : uvar (tm Y) = false := by rw [← ei]; exact H.fn_head hi fi
      obtain ⟨y1, y2, y3⟩ := H.cong i hi Y hY.2 (by rw [ei, hY.1]) fi fY
      obtain ⟨x1, x2, x3⟩ := H.cong X hX.2 j hj (by rw [ej, hX.1]) fX fj
      obtain ⟨z1, z2, z3⟩ := q3 fX fY
      refine ⟨by rw [y1, ← z1, x1], by rw [y2, ← z2, x2], fun g hg l hl => ?_⟩
      obtain ⟨r1, r2⟩ := hres g hg
      rw [y3 g r1 l hl, ← z3 g r2 l (by omega), x3 g r1 l (by omega)]
    by_cases ei : h i = Y
    · by_cases ej : h j = Y
      · obtain ⟨h1, h2, h3⟩ := H.cong i hi j hj (by rw [ei, ej]) fi fj
        exact ⟨h1, h2, fun g hg => h3 g (hres g hg).1⟩
      · rw [jn_pos ei, jn_neg ej] at e
        exact mixed i hi j hj fi fj ei e.symm
    · by_cases ej : h j = Y
      · rw [jn_neg ei, jn_pos ej] at e
        obtain ⟨h1, h2, h3⟩ := mixed j hj i hi fj fi ej e
        exact ⟨h1.symm, h2.symm, fun g hg l hl => (h3 g hg l (by omega)).symm⟩
      · rw [jn_neg ei, jn_neg ej] at e
        obtain ⟨h1, h2, h3⟩ := H.cong i hi j hj e fi fj
        exact ⟨h1, h2, fun g hg => h3 g (hres g hg).1⟩
  · have := H.vars i hi j hj vi vj e
    unfold jn
    rw [this]

/-- How many heads there are. -/
def heads (n : Nat) (h : Nat → Nat) : Nat := (List.range n).countP fun i => decide (h i = i)

theorem countP_lt {α : Type} {p q : α → Bool} : ∀ {l : List α}, (∀ x ∈ l, p x = true → q x = true) → (∃ x ∈ l, q x = true ∧ p x = false) → l.countP p < l.countP q
  | [], _, h => by obtain ⟨x, hx, _⟩ := h; cases hx
  | a :: r, h1, h2 => by
    have hr : ∀ x ∈ r, p x = true → q x = true := fun x hx => h1 x (List.mem_cons_of_mem _ hx)
    have hle : r.countP p ≤ r.countP q := List.countP_mono_left hr
    rw [List.countP_cons, List.countP_cons]
    obtain ⟨x, hx, hq, hp⟩ := h2
    rcases List.mem_cons.1 hx with rfl | hx
    · rw [hq, hp]; simp; omega
    · have := countP_lt hr ⟨x, hx, hq, hp⟩
      have ha := h1 a List.mem_cons_self
      cases ea : p a
      · simp; omega
      · rw [ha ea]; simp; omega

theorem heads_join {n : Nat} {h : Nat → Nat} {X Y : Nat} (hX : h X = X) (hY : h Y = Y) (ly : Y < n) (hne : X ≠ Y) : heads n (jn h X Y) < heads n h := by
  refine countP_lt (fun i hi hp => ?_) ⟨Y, List.mem_range.2 ly, by simpa using hY, ?_⟩
  · rw [decide_eq_true_eq] at hp ⊢
    by_cases e : h i = Y
    · rw [jn_pos e] at hp
      subst hp
      rw [hX] at e
      exact absurd e hne
    · rw [jn_neg e] at hp
      exact hp
  · rw [jn_pos hY]
    simpa using hne

/-- Nothing is left to become one. -/
abbrev Solved (a b : T) (n : Nat) (tm : Nat → T) (fs h : Nat → Nat) : Prop := UInv a b n tm fs h []

theorem Resp.self {n : Nat} {h : Nat → Nat} (hi : ∀ i, i < n → h (h i) = h i) : Resp n h [] h := ⟨fun i h => (hi i h).symm, fun _ hm => by cases hm⟩
theorem UInv.args {a b : T} {n : Nat} {tm : Nat → T} {fs h : Nat → Nat} (H : Solved a b n tm fs h) {i : Nat} (hi : i < n) (f : uvar (tm i) = false) : (tm i).fn = (tm (h i)).fn ∧ (tm i).args.length = (tm (h i)).args.length ∧ ∀ l, l < (tm i).args.length → h (fs i + l) = h (fs (h i) + l) := by
  obtain ⟨h1, h2, h3⟩ := H.cong i hi (h i) (H.lt i hi) (H.idem i hi).symm f (H.fn_head hi f)
  exact ⟨h1, h2, fun l hl => h3 h (Resp.self H.idem) l hl⟩
theorem UInv.tops {a b : T} {n : Nat} {tm : Nat → T} {fs h : Nat → Nat} (H : Solved a b n tm fs h) : h 0 = h 1 := H.top h (Resp.self H.idem)

/-- A number for each class, that falls with each argument. -/
structure Rank (n : Nat) (tm : Nat → T) (fs h φ : Nat → Nat) : Prop where
  cls : ∀ i, i < n → φ i = φ (h i)
  fall : ∀ i, i < n → ∀ l, l < (tm (h i)).args.length → φ (fs (h i) + l) < φ (h i)

theorem nn_arg {t : T} {l : Nat} (hl : l < t.args.length) : t.args[l].nn < t.nn := by
  rw [T.nn_eq t]
  have : ∀ (q : List T) (x : T), x ∈ q → x.nn ≤ (q.map T.nn).sum := by
    intro q
    induction q with
    | nil => intro x hx; cases hx
    | cons a r ih =>
      intro x hx
      simp only [List.map_cons, List.sum_cons]
      rcases List.mem_cons.1 hx with rfl | hx
      · omega
      · have := ih x hx; omega
  have := this t.args t.args[l] (List.getElem_mem hl)
  omega

theorem appV {t : T} (θ : Int → T) (h : uvar t = true) : t.app θ = θ t.v := by
  rw [T.app_eq, if_pos (by simpa [uvar] using h)]
theorem appF {t : T} (θ : Int → T) (h : uvar t = false) : t.app θ = .mk 0 t.fn (t.args.map (T.app θ)) := by
  rw [T.app_eq, if_neg (by simpa [uvar] using h)]

theorem rank_uni {a b : T} {n : Nat} {tm : Nat → T} {fs h : Nat → Nat} (L : Lay a b n tm fs) (H : Solved a b n tm fs h) (θ : Int → T) (hθ : a.app θ = b.app θ) : Rank n tm fs h fun i => ((tm i).app θ).nn := by
  refine ⟨fun i hi => congrArg T.nn ((H.snd θ hθ).1 i hi), fun i hi l hl => ?_⟩
  have hh := H.lt i hi
  cases f : uvar (tm (h i)) with
  | true => rw [L.vnil _ hh f] at hl; cases hl
  | false =>
    have e := (L.kids _ hh l hl).2
    show ((tm (fs (h i) + l)).app θ).nn < _
    rw [e, appF θ f]
    have hl' : l < (T.mk 0 (tm (h i)).fn ((tm (h i)).args.map (T.app θ))).args.length := by simpa [T.args] using hl
    have := nn_arg hl'
    simpa [T.args] using this

/-- What is built of a node's class. -/
inductive Bl (tm : Nat → T) (fs h : Nat → Nat) : Nat → T → Prop
  | mk (i : Nat) (ts : List T) (hl : ts.length = (tm (h i)).args.length) (hk : ∀ l (hl : l < ts.length), Bl tm fs h (fs (h i) + l) ts[l]) : Bl tm fs h i (.mk (tm (h i)).v (tm (h i)).fn ts)

theorem Bl.one {tm : Nat → T} {fs h : Nat → Nat} {i : Nat} {t : T} (H : Bl tm fs h i t) : ∀ {t'}, Bl tm fs h i t' → t = t' := by
  induction H with
  | mk i ts hl hk ih =>
    intro t' h'
    cases h' with
    | mk _ ts' hl' hk' =>
      have : ts = ts' := by
        refine List.ext_getElem (by rw [hl, hl']) fun l h1 h2 => ih l h1 (hk' l h2)
      rw [this]
theorem Bl.cls {tm : Nat → T} {fs h : Nat → Nat} {i j : Nat} {t : T} (H : Bl tm fs h i t) (e : h i = h j) : Bl tm fs h j t := by
  cases H with
  | mk _ ts hl hk =>
    rw [e] at hl hk ⊢
    exact .mk j ts hl hk
theorem Bl.inv {tm : Nat → T} {fs h : Nat → Nat} {i : Nat} {t : T} (H : Bl tm fs h i t) : t.v = (tm (h i)).v ∧ t.fn = (tm (h i)).fn ∧ t.args.length = (tm (h i)).args.length ∧ ∀ l (hl : l < t.args.length), Bl tm fs h (fs (h i) + l) t.args[l] := by
  cases H with
  | mk _ ts hl hk => exact ⟨rfl, rfl, hl, hk⟩

/-- Every class is reached from the first node's. -/
theorem Bl.all {a b : T} {n : Nat} {tm : Nat → T} {fs h : Nat → Nat} (L : Lay a b n tm fs) (H : Solved a b n tm fs h) {t : T} (h0 : Bl tm fs h 0 t) : ∀ i, i < n → ∃ t, Bl tm fs h i t := by
  intro i
  induction i using Nat.strongRecOn with
  | _ i ih =>
    intro hi
    match i with
    | 0 => exact ⟨t, h0⟩
    | 1 => exact ⟨t, h0.cls H.tops⟩
    | k + 2 =>
      obtain ⟨p, l, hp, hl, e⟩ := L.par _ hi (by omega)
      obtain ⟨u, hu⟩ := ih p hp (by omega)
      have f : uvar (tm p) = false := by
        cases f : uvar (tm p) with
        | false => rfl
        | true => rw [L.vnil p (by omega) f] at hl; cases hl
      obtain ⟨_, e2, e3⟩ := H.args (by omega) f
      obtain ⟨_, _, g3, g4⟩ := hu.inv
      rw [e]
      exact ⟨_, (g4 l (by omega)).cls (e3 l hl).symm⟩

theorem rank_bl {n : Nat} {tm : Nat → T} {fs h : Nat → Nat} (hlt : ∀ i, i < n → h i < n) (hid : ∀ i, i < n → h (h i) = h i) (hk : ∀ i, i < n → ∀ l, l < (tm i).args.length → fs i + l < n) (H : ∀ i, i < n → ∃ t, Bl tm fs h i t) : ∃ φ, Rank n tm fs h φ := by
  have H' : ∀ i, ∃ t, i < n → Bl tm fs h i t := fun i => by
    by_cases hi : i < n
    · obtain ⟨t, ht⟩ := H i hi
      exact ⟨t, fun _ => ht⟩
    · exact ⟨.mk 0 ⟨#[]⟩ [], fun h => absurd h hi⟩
  obtain ⟨β, hβ⟩ := Classical.axiomOfChoice H'
  refine ⟨fun i => (β i).nn, fun i hi => ?_, fun i hi l hl => ?_⟩
  · exact congrArg T.nn ((hβ i hi).cls (hid i hi).symm |>.one (hβ (h i) (hlt i hi)))
  · have hb := hβ (h i) (hlt i hi)
    obtain ⟨_, _, g3, g4⟩ := hb.inv
    rw [hid i hi] at g3 g4
    have := g4 l (by omega)
    have e := this.one (hβ (fs (h i) + l) (hk (h i) (hlt i hi) l hl))
    show (β (fs (h i) + l)).nn < (β (h i)).nn
    rw [← e]
    exact nn_arg _

/-- What stands for each variable makes of each node's term what is built of it. -/
theorem Bl.app {a b : T} {n : Nat} {tm : Nat → T} {fs h : Nat → Nat} (L : Lay a b n tm fs) (H : Solved a b n tm fs h) (β : Nat → T) (hβ : ∀ i, i < n → Bl tm fs h i (β i)) (σ : Int → T) (hσ : ∀ i, i < n → uvar (tm i) = true → σ (tm i).v = β i) : ∀ i, i < n → (tm i).app σ = β i := by
  have key : ∀ (t : T) i, i < n → tm i = t → t.app σ = β i := by
    intro t
    induction t using T.ind with
    | _ t ih =>
      intro i hi e
      cases f : uvar t with
      | true =>
        rw [appV σ f, ← e]
        exact hσ i hi (by rw [e]; exact f)
      | false =>
        rw [← e] at f ih ⊢
        obtain ⟨g1, g2, g3, g4⟩ := (hβ i hi).inv
        obtain ⟨e1, e2, e3⟩ := H.args hi f
        have fv : (β i).v = 0 := by rw [g1]; exact L.fnv _ (H.lt i hi) (H.fn_head hi f)
        rw [appF σ f, T.eta (β i), fv, g2, ← e1]
        congr 1
        refine List.ext_getElem (by rw [List.length_map, g3, e2]) fun l h1 h2 => ?_
        rw [List.getElem_map]
        rw [List.length_map] at h1
        obtain ⟨k1, k2⟩ := L.kids i hi l h1
        rw [ih _ (List.getElem_mem h1) (fs i + l) k1 k2]
        exact ((hβ _ k1).cls (e3 l h1)).one (g4 l h2)
  exact fun i hi => key _ i hi rfl

/-- Each unifier is an instance of it. -/
theorem Bl.gen {a b : T} {n : Nat} {tm : Nat → T} {fs h : Nat → Nat} (L : Lay a b n tm fs) (H : Solved a b n tm fs h) (θ : Int → T) (hθ : a.app θ = b.app θ) {i : Nat} {t : T} (hb : Bl tm fs h i t) : i < n → t.app θ = (tm i).app θ := by
  induction hb with
  | mk i ts hl hk ih =>
    intro hi
    have hh := H.lt i hi
    rw [(H.snd θ hθ).1 i hi]
    cases f : uvar (tm (h i)) with
    | true =>
      rw [appV θ f]
      exact appV θ (by simpa [uvar, T.fn] using f)
    | false =>
      rw [appF θ f]
      have f' : uvar (T.mk (tm (h i)).v (tm (h i)).fn ts) = false := by simpa [uvar, T.fn] using f
      rw [appF θ f']
      show T.mk 0 (tm (h i)).fn (ts.map (T.app θ)) = _
      congr 1
      refine List.ext_getElem (by rw [List.length_map, List.length_map, hl]) fun l h1 h2 => ?_
      rw [List.getElem_map, List.getElem_map]
      rw [List.length_map] at h1 h2
      obtain ⟨k1, k2⟩ := L.kids _ hh l h2
      rw [ih l h1 k1, k2]

end Go.Proofs.Ytblfbmdnkgebdaa

/-
  The graph as it is laid: mathematics; the nodes' heads.
-/
namespace Go.Proofs.Ytblfbmdnkgebdaa
open Go.RowKit

theorem Upw.det {ns : List Nd} {k i r : Nat} (h : Upw ns k i r) : ∀ {k' r'}, Upw ns k' i r' → r = r' := by
  induction h with
  | here i hi hu =>
    intro k' r' h'
    cases h' with
    | here => rfl
    | step _ _ j _ _ hu' hne _ => rw [hu] at hu'; exact absurd (by omega) hne
  | step k i j r hi hu hne _ ih =>
    intro k' r' h'
    cases h' with
    | here _ _ hu' => rw [hu] at hu'; exact absurd (by omega) hne
    | step _ _ j' _ _ hu' _ h2 =>
      rw [hu] at hu'
      obtain rfl : j = j' := by omega
      exact ih h2

/-- The nodes: of each its term, its first argument's node, its class's head. -/
structure Gr (ns : List Nd) (n : Nat) (tm : Nat → T) (fs h : Nat → Nat) : Prop where
  len : ns.length = n
  nd : ∀ i (hi : i < ns.length), ns[i].t = tm i ∧ ns[i].first = (fs i : Int)
  up : ∀ i, i < n → ∃ k, Upw ns k i (h i)

theorem Gr.same {ns ns' : List Nd} {n : Nat} {tm : Nat → T} {fs h : Nat → Nat} (H : Gr ns n tm fs h) (S : Same8 ns ns') : Gr ns' n tm fs h := by
  refine ⟨S.1.trans H.len, fun i hi => ?_, fun i hi => ?_⟩
  · have hi' : i < ns.length := by rw [← S.1]; exact hi
    rw [S.2.1 i hi' hi]
    exact H.nd i hi'
  · obtain ⟨k, hk⟩ := H.up i hi
    obtain ⟨k', _, h'⟩ := S.2.2 k i _ hk
    exact ⟨k', h'⟩

theorem Gr.root {ns : List Nd} {n : Nat} {tm : Nat → T} {fs h : Nat → Nat} (H : Gr ns n tm fs h) {i : Nat} (hi : i < n) (e : h i = i) : ∃ hi' : i < ns.length, ns[i].up = (i : Int) := by
  obtain ⟨k, hk⟩ := H.up i hi
  rw [e] at hk
  have := hk.root
  cases this with
  | here _ h1 h2 => exact ⟨h1, h2⟩

/-- Two classes become one. -/
theorem Gr.join {ns : List Nd} {n : Nat} {tm : Nat → T} {fs h : Nat → Nat} (H : Gr ns n tm fs h) {X Y : Nat} (hX : X < n) (hY : Y < n) (eX : h X = X) (eY : h Y = Y) (hne : X ≠ Y) (hy : Y < ns.length) : Gr (ns.set Y { ns[Y] with up := (X : Int) }) n tm fs (jn h X Y) := by
  have hget : ∀ x (hx : x < ns.length), (ns.set Y { ns[Y] with up := (X : Int) })[x]'(by simpa using hx) = if Y = x then { ns[Y] with up := (X : Int) } else ns[x] := fun x hx => List.getElem_set _
  obtain ⟨lX, uX⟩ := H.root hX eX
  obtain ⟨lY, uY⟩ := H.root hY eY
  refine ⟨by rw [List.length_set]; exact H.len, fun i hi => ?_, fun i hi => ?_⟩
  · rw [List.length_set] at hi
    rw [hget i hi]
    by_cases e : Y = i
    · subst e; rw [if_pos rfl]; exact H.nd _ hi
    · rw [if_neg e]; exact H.nd i hi
  · obtain ⟨k, hk⟩ := H.up i hi
    have key : ∀ k i r, Upw ns k i r → (r ≠ Y → Upw (ns.set Y { ns[Y] with up := (X : Int) }) k i r) ∧ (r = Y → ∃ k', Upw (ns.set Y { ns[Y] with up := (X : Int) }) k' i X) := by
      intro k i r hk
      induction hk with
      | here i hi hu =>
        refine ⟨fun e => .here i (by simpa using hi) ?_, fun e => ?_⟩
        · rw [hget i hi, if_neg (fun e' => e e'.symm)]; exact hu
        · subst e
          refine ⟨1, .step 0 i X X (by simpa using hi) (by rw [hget i hi, if_pos rfl]) (fun e => hne e.symm) (.here X (by simpa using lX) ?_)⟩
          rw [hget X lX, if_neg (fun e => hne e.symm)]; exact uX
      | step k i j r hi hu hij _ ih =>
        have hiY : Y ≠ i := fun e => by subst e; rw [uY] at hu; exact hij (by omega)
        refine ⟨fun e => .step k i j r (by simpa using hi) (by rw [hget i hi, if_neg hiY]; exact hu) hij (ih.1 e), fun e => ?_⟩
        obtain ⟨k', h'⟩ := ih.2 e
        by_cases ejx : i = X
        · subst ejx
          rw [uX] at hu
          exact absurd (by omega) hij
        · exact ⟨k' + 1, .step k' i j X (by simpa using hi) (by rw [hget i hi, if_neg hiY]; exact hu) hij h'⟩
    by_cases e : h i = Y
    · rw [jn_pos e]
      exact (key k i _ hk).2 e
    · rw [jn_neg e]
      exact ⟨k, (key k i _ hk).1 e⟩

/-- Nothing is measured, nothing open. -/
def Blank (ns : List Nd) : Prop := ∀ m ∈ ns, m.op = false ∧ m.size = 0
theorem Blank.same {ns ns' : List Nd} (h : Blank ns) (S : Same8 ns ns') : Blank ns' := by
  intro m hm
  obtain ⟨i, hi, rfl⟩ := List.getElem_of_mem hm
  have hi' : i < ns.length := by rw [← S.1]; exact hi
  rw [S.2.1 i hi' hi]
  exact (h _ (List.getElem_mem hi') : ns[i].op = false ∧ ns[i].size = 0)
theorem Blank.set {ns : List Nd} (h : Blank ns) {i : Nat} (hi : i < ns.length) (u : Int) : Blank (ns.set i { ns[i] with up := u }) := by
  intro m hm
  rcases List.mem_or_eq_of_mem_set hm with hm | rfl
  · exact h m hm
  · exact (h _ (List.getElem_mem hi) : ns[i].op = false ∧ ns[i].size = 0)

/-- The way up, and the first nodes, of a node more. -/
def upOf (ν : Nv) (t : T) (len : Nat) : Int := if uvar t = true then (ν t.v).getD len else len
def nuOf (ν : Nv) (t : T) (len : Nat) : Nv := if uvar t = true ∧ ν t.v = none then ν.put t.v len else ν
def incOf (ν : Nv) (t : T) : Nat := if uvar t = true ∧ ν t.v = none then 1 else 0

/-- The graph while it is laid: the first x nodes have their arguments' nodes. -/
structure LayC (a b : T) (x y : Nat) (ns : List Nd) (ν : Nv) (n : Nat) : Prop where
  n0 : ∀ m : Nd, ns[0]? = some m → m.t = a
  n1 : ∀ m : Nd, ns[1]? = some m → m.t = b
  xl : x ≤ ns.length
  kids : ∀ (i : Nat) (m : Nd), ns[i]? = some m → i < x → ∃ f : Nat, m.first = (f : Int) ∧ ∀ l (hl : l < m.t.args.length), ∃ c, ns[f + l]? = some c ∧ c.t = m.t.args[l]
  par : ∀ i, 2 ≤ i → i < ns.length → ∃ p m f l, ns[p]? = some m ∧ p < y ∧ p < i ∧ m.first = ((f : Nat) : Int) ∧ l < m.t.args.length ∧ i = f + l
  shp : ∀ m ∈ ns, m.t.shape = true
  blk : Blank ns
  upv : ∀ (i : Nat) (m : Nd), ns[i]? = some m → uvar m.t = true → ν m.t.v = some m.up
  upf : ∀ (i : Nat) (m : Nd), ns[i]? = some m → uvar m.t = false → m.up = (i : Int)
  nu : ∀ x k, ν x = some k → ∃ r m, k = ((r : Nat) : Int) ∧ ns[r]? = some m ∧ uvar m.t = true ∧ m.t.v = x ∧ m.up = k
  cnt : n ≤ ns.length

theorem shape_var {t : T} (h : t.shape = true) (hv : uvar t = true) : t.args = [] ∧ 0 ≤ t.v ∧ t.v < 1000000 := by
  rw [t.shape_eq, if_pos (by simpa [uvar] using hv)] at h
  simp at h
  exact ⟨h.2, h.1.1, h.1.2⟩
theorem shape_fn {t : T} (h : t.shape = true) (hv : uvar t = false) : t.v = 0 ∧ t.args.length ≤ 16 ∧ ∀ c ∈ t.args, c.shape = true := by
  rw [t.shape_eq, if_neg (by simpa [uvar] using hv)] at h
  simp at h
  exact ⟨h.1.1.1, h.1.2, h.2⟩
theorem shapeArg {t : T} (h : t.shape = true) {l : Nat} (hl : l < t.args.length) : t.args[l].shape = true := by
  cases hv : uvar t with
  | true => have := (shape_var h hv).1; rw [this] at hl; cases hl
  | false => exact (shape_fn h hv).2.2 _ (List.getElem_mem hl)

/-- A node more, that is an argument of node y. -/
theorem LayC.add {a b : T} {x y : Nat} {ns : List Nd} {ν : Nv} {n : Nat} (H : LayC a b x y ns ν n) (t : T) (sl : Value) (ht : t.shape = true) (ha : ns.length = 0 → t = a) (hb : ns.length = 1 → t = b) (hp : 2 ≤ ns.length → ∃ p m f l, ns[p]? = some m ∧ p < y ∧ m.first = ((f : Nat) : Int) ∧ l < m.t.args.length ∧ ns.length = f + l) :
    LayC a b x y (ns ++ [⟨t, sl, 0, upOf ν t ns.length, false, 0, 0⟩]) (nuOf ν t ns.length) (n + incOf ν t) := by
  have old : ∀ {i : Nat} {m : Nd}, ns[i]? = some m → (ns ++ [⟨t, sl, 0, upOf ν t ns.length, false, 0, 0⟩])[i]? = some m := fun {i m} h => by
    rw [List.getElem?_append_left (List.getElem?_eq_some_iff.1 h).1]; exact h
  have cs : ∀ {i : Nat} {m : Nd}, (ns ++ [⟨t, sl, 0, upOf ν t ns.length, false, 0, 0⟩])[i]? = some m → ns[i]? = some m ∨ (i = ns.length ∧ m = ⟨t, sl, 0, upOf ν t ns.length, false, 0, 0⟩) := fun {i m} h => by
    by_cases hi : i < ns.length
    · rw [List.getElem?_append_left hi] at h; exact .inl h
    · rw [List.getElem?_append_right (by omega)] at h
      have := (List.getElem?_eq_some_iff.1 h).1
      simp at this
      have e : i = ns.length := by omega
      subst e
      simp at h
      exact .inr ⟨rfl, h.symm⟩
  have nuKeep : ∀ x k, ν x = some k → nuOf ν t ns.length x = some k := fun x k h => by
    unfold nuOf
    split
    · rename_i hc
      unfold Nv.put
      rw [if_neg]
      · exact h
      · intro e; subst e; rw [hc.2] at h; cases h
    · exact h
  refine ⟨fun m h => ?_, fun m h => ?_, ?_, fun i m h hi => ?_, fun i h2 hi => ?_, fun m hm => ?_, fun m hm => ?_, fun i m h hv => ?_, fun i m h hv => ?_, fun z k h => ?_, ?_⟩
  · rcases cs h with h | ⟨e, rfl⟩
    · exact H.n0 m h
    · exact ha e.symm
  · rcases cs h with h | ⟨e, rfl⟩
    · exact H.n1 m h
    · exact hb e.symm
  · have := H.xl; rw [List.length_append]; omega
  · rcases cs h with h | ⟨e, rfl⟩
    · obtain ⟨f, h1, h2⟩ := H.kids i m h hi
      exact ⟨f, h1, fun l hl => by obtain ⟨c, h3, h4⟩ := h2 l hl; exact ⟨c, old h3, h4⟩⟩
    · have := H.xl; omega
  · rw [List.length_append, List.length_singleton] at hi
    by_cases hl : i < ns.length
    · obtain ⟨p, m, f, l, h1, h3, h4, h5⟩ := H.par i h2 hl
      exact ⟨p, m, f, l, old h1, h3, h4, h5⟩
    · obtain ⟨p, m, f, l, h1, h3, h5, h6, h7⟩ := hp (by omega)
      exact ⟨p, m, f, l, old h1, h3, by have := (List.getElem?_eq_some_iff.1 h1).1; omega, h5, h6, by omega⟩
  · rcases List.mem_append.1 hm with hm | hm
    · exact H.shp m hm
    · simp at hm; subst hm; exact ht
  · rcases List.mem_append.1 hm with hm | hm
    · exact H.blk m hm
    · simp at hm; subst hm; exact ⟨rfl, rfl⟩
  · rcases cs h with h | ⟨e, rfl⟩
    · exact nuKeep _ _ (H.upv i m h hv)
    · show nuOf ν t ns.length t.v = some (upOf ν t ns.length)
      have hv : uvar t = true := hv
      unfold nuOf upOf
      rw [if_pos hv]
      cases hn : ν t.v with
      | none => rw [if_pos ⟨hv, rfl⟩]; simp [Nv.put]
      | some k => rw [if_neg (fun h => by cases h.2)]; simp [hn]
  · rcases cs h with h | ⟨e, rfl⟩
    · exact H.upf i m h hv
    · have hv : uvar t = false := hv
      show upOf ν t ns.length = _
      unfold upOf
      rw [if_neg (by rw [hv]; simp), e]
  · by_cases hc : uvar t = true ∧ ν t.v = none
    · unfold nuOf at h
      rw [if_pos hc] at h
      unfold Nv.put at h
      by_cases e : z = t.v
      · rw [if_pos e] at h
        cases h
        refine ⟨ns.length, ⟨t, sl, 0, upOf ν t ns.length, false, 0, 0⟩, rfl, by rw [List.getElem?_append_right (Nat.le_refl _)]; simp, hc.1, e.symm, ?_⟩
        show upOf ν t ns.length = _
        unfold upOf
        rw [if_pos hc.1, hc.2]
        rfl
      · rw [if_neg e] at h
        obtain ⟨r, m, h1, h2, h3⟩ := H.nu z k h
        exact ⟨r, m, h1, old h2, h3⟩
    · unfold nuOf at h
      rw [if_neg hc] at h
      obtain ⟨r, m, h1, h2, h3⟩ := H.nu z k h
      exact ⟨r, m, h1, old h2, h3⟩
  · have := H.cnt
    unfold incOf
    rw [List.length_append, List.length_singleton]
    split <;> omega

/-- Nothing is laid. -/
theorem LayC.nil (a b : T) : LayC a b 0 0 [] (fun _ => none) 0 := by
  refine ⟨fun m h => ?_, fun m h => ?_, Nat.le_refl _, fun i m h => ?_, fun i _ h => ?_, fun m h => ?_, fun m h => ?_, fun i m h => ?_, fun i m h => ?_, fun x k h => ?_, Nat.le_refl _⟩ <;> simp at h

/-- The next node gets its first argument's node. -/
theorem LayC.first {a b : T} {x : Nat} {ns : List Nd} {ν : Nv} {n : Nat} (H : LayC a b x x ns ν n) (hx : x < ns.length) (f : Nat) : LayC a b x (x + 1) (ns.set x { ns[x] with first := (f : Int) }) ν n := by
  have hget : ∀ (i : Nat) (m : Nd), (ns.set x { ns[x] with first := (f : Int) })[i]? = some m → ∃ m', ns[i]? = some m' ∧ m.t = m'.t ∧ m.up = m'.up ∧ m.op = m'.op ∧ m.size = m'.size ∧ (i ≠ x → m = m') := fun i m h => by
    rw [List.getElem?_set] at h
    by_cases e : x = i
    · subst e
      rw [if_pos rfl, if_pos hx] at h
      cases h
      exact ⟨ns[x], List.getElem?_eq_getElem hx, rfl, rfl, rfl, rfl, fun e => absurd rfl e⟩
    · rw [if_neg e] at h
      exact ⟨m, h, rfl, rfl, rfl, rfl, fun _ => rfl⟩
  have hput : ∀ (i : Nat) (m' : Nd), ns[i]? = some m' → ∃ m, (ns.set x { ns[x] with first := (f : Int) })[i]? = some m ∧ m.t = m'.t ∧ m.up = m'.up ∧ (i ≠ x → m = m') := fun i m' h => by
    rw [List.getElem?_set]
    by_cases e : x = i
    · subst e
      rw [if_pos rfl, if_pos hx]
      rw [List.getElem?_eq_getElem hx] at h
      cases h
      exact ⟨_, rfl, rfl, rfl, fun e => absurd rfl e⟩
    · rw [if_neg e]
      exact ⟨m', h, rfl, rfl, fun _ => rfl⟩
  refine ⟨fun m h => ?_, fun m h => ?_, by rw [List.length_set]; exact H.xl, fun i m h hi => ?_, fun i h2 hi => ?_, fun m hm => ?_, fun m hm => ?_, fun i m h hv => ?_, fun i m h hv => ?_, fun z k h => ?_, by rw [List.length_set]; exact H.cnt⟩
  · obtain ⟨m', h1, e, _⟩ := hget 0 m h; rw [e]; exact H.n0 m' h1
  · obtain ⟨m', h1, e, _⟩ := hget 1 m h; rw [e]; exact H.n1 m' h1
  · obtain ⟨m', h1, _, _, _, _, e⟩ := hget i m h
    have e := e (by omega)
    subst e
    obtain ⟨f', h2, h3⟩ := H.kids i m h1 hi
    refine ⟨f', h2, fun l hl => ?_⟩
    obtain ⟨c, h4, h5⟩ := h3 l hl
    obtain ⟨c', h6, h7, _⟩ := hput _ c h4
    exact ⟨c', h6, by rw [h7]; exact h5⟩
  · rw [List.length_set] at hi
    obtain ⟨p, m, f', l, h1, h3, h4, h5, h6, h7⟩ := H.par i h2 hi
    obtain ⟨m', k1, _, _, k4⟩ := hput p m h1
    have e := k4 (by omega)
    subst e
    exact ⟨p, m', f', l, k1, by omega, h4, h5, h6, h7⟩
  · obtain ⟨i, hi⟩ := List.mem_iff_getElem?.1 hm
    obtain ⟨m', h1, e, _⟩ := hget i m hi
    rw [e]
    exact H.shp m' (List.mem_iff_getElem?.2 ⟨i, h1⟩)
  · obtain ⟨i, hi⟩ := List.mem_iff_getElem?.1 hm
    obtain ⟨m', h1, _, _, e1, e2, _⟩ := hget i m hi
    rw [e1, e2]
    exact H.blk m' (List.mem_iff_getElem?.2 ⟨i, h1⟩)
  · obtain ⟨m', h1, e, e2, _⟩ := hget i m h
    rw [e, e2]
    exact H.upv i m' h1 (by rw [← e]; exact hv)
  · obtain ⟨m', h1, e, e2, _⟩ := hget i m h
    rw [e2]
    exact H.upf i m' h1 (by rw [← e]; exact hv)
  · obtain ⟨r, m, h1, h2, h3, h4, h5⟩ := H.nu z k h
    obtain ⟨m', k1, k2, k3, _⟩ := hput r m h2
    exact ⟨r, m', h1, k1, by rw [k2]; exact h3, by rw [k2]; exact h4, by rw [k3]; exact h5⟩

/-- Its arguments are laid. -/
theorem LayC.roll {a b : T} {x f : Nat} {ns : List Nd} {ν : Nv} {n : Nat} (H : LayC a b x (x + 1) ns ν n) {m : Nd} (hx : ns[x]? = some m) (hf : m.first = (f : Int)) (hk : ∀ l (hl : l < m.t.args.length), ∃ c, ns[f + l]? = some c ∧ c.t = m.t.args[l]) : LayC a b (x + 1) (x + 1) ns ν n := by
  refine ⟨H.n0, H.n1, (List.getElem?_eq_some_iff.1 hx).1, fun i m' h hi => ?_, H.par, H.shp, H.blk, H.upv, H.upf, H.nu, H.cnt⟩
  by_cases e : i = x
  · subst e
    rw [hx] at h
    cases h
    exact ⟨f, hf, hk⟩
  · exact H.kids i m' h (by omega)

/-- How many nodes are still to come of the nodes from x on. -/
def rest (x : Nat) (ns : List Nd) : Nat := ((ns.drop x).map fun m => m.t.nn - 1).sum
theorem rest_add (x : Nat) (ns : List Nd) (m : Nd) (h : x ≤ ns.length) : rest x (ns ++ [m]) = rest x ns + (m.t.nn - 1) := by
  unfold rest
  rw [List.drop_append_of_le_length h]
  simp
theorem rest_roll (x : Nat) (ns : List Nd) (hx : x < ns.length) : rest x ns = (ns[x].t.nn - 1) + rest (x + 1) ns := by
  unfold rest
  rw [List.drop_eq_getElem_cons hx, List.map_cons, List.sum_cons]
theorem rest_set (x : Nat) (ns : List Nd) (i : Nat) (hi : i < ns.length) (f : Int) : rest x (ns.set i { ns[i] with first := f }) = rest x ns := by
  unfold rest
  rw [List.drop_set]
  split
  · rfl
  · rename_i h
    rw [List.map_set]
    congr 1
    refine List.ext_getElem (by simp) fun k h1 h2 => ?_
    rw [List.getElem_set]
    split
    · rename_i e
      simp only [List.getElem_map, List.getElem_drop]
      have : x + k = i := by omega
      simp [this]
    · rfl

def tmOf (ns : List Nd) (i : Nat) : T := ((ns[i]?).map Nd.t).getD (.mk 0 ⟨#[]⟩ [])
def fsOf (ns : List Nd) (i : Nat) : Nat := ((ns[i]?).map fun m => m.first.toNat).getD 0
def hdOf (ns : List Nd) (i : Nat) : Nat := ((ns[i]?).map fun m => m.up.toNat).getD 0
theorem tmOf_eq {ns : List Nd} {i : Nat} {m : Nd} (h : ns[i]? = some m) : tmOf ns i = m.t := by unfold tmOf; rw [h]; rfl
theorem fsOf_eq {ns : List Nd} {i f : Nat} {m : Nd} (h : ns[i]? = some m) (e : m.first = (f : Int)) : fsOf ns i = f := by unfold fsOf; rw [h]; simp [e]
theorem hdOf_eq {ns : List Nd} {i f : Nat} {m : Nd} (h : ns[i]? = some m) (e : m.up = (f : Int)) : hdOf ns i = f := by unfold hdOf; rw [h]; simp [e]

/-- All is laid. -/
theorem LayC.done {a b : T} {ns : List Nd} {ν : Nv} {n : Nat} (H : LayC a b ns.length ns.length ns ν n) (h2 : 2 ≤ ns.length) : Lay a b ns.length (tmOf ns) (fsOf ns) ∧ Gr ns ns.length (tmOf ns) (fsOf ns) (hdOf ns) ∧ UInv a b ns.length (tmOf ns) (fsOf ns) (hdOf ns) [(0, 1)] := by
  have some : ∀ i, i < ns.length → ∃ m, ns[i]? = some m := fun i hi => ⟨ns[i], List.getElem?_eq_getElem hi⟩
  have mem : ∀ {i : Nat} {m : Nd}, ns[i]? = Option.some m → m ∈ ns := fun {i m} h => List.mem_iff_getElem?.2 ⟨i, h⟩
  have head : ∀ i, i < ns.length → ∃ m r mr, ns[i]? = Option.some m ∧ m.up = ((r : Nat) : Int) ∧ ns[r]? = Option.some mr ∧ mr.up = (r : Int) ∧ ((uvar m.t = false ∧ r = i) ∨ (uvar m.t = true ∧ uvar mr.t = true ∧ mr.t.v = m.t.v)) := fun i hi => by
    obtain ⟨m, hm⟩ := some i hi
    cases hv : uvar m.t with
    | false => exact ⟨m, i, m, hm, H.upf i m hm hv, hm, H.upf i m hm hv, .inl ⟨hv, rfl⟩⟩
    | true =>
      obtain ⟨r, mr, h1, h2, h3, h4, h5⟩ := H.nu _ _ (H.upv i m hm hv)
      exact ⟨m, r, mr, hm, h1, h2, by rw [h5]; exact h1, .inr ⟨hv, h3, h4⟩⟩
  have hL : Lay a b ns.length (tmOf ns) (fsOf ns) := by
    refine ⟨h2, ?_, ?_, fun i hi l hl => ?_, fun i hi i2 => ?_, fun i hi hv => ?_, fun i hi hv => ?_⟩
    · obtain ⟨m, hm⟩ := some 0 (by omega); rw [tmOf_eq hm]; exact H.n0 m hm
    · obtain ⟨m, hm⟩ := some 1 (by omega); rw [tmOf_eq hm]; exact H.n1 m hm
    · obtain ⟨m, hm⟩ := some i hi
      obtain ⟨f, e, hk⟩ := H.kids i m hm hi
      rw [fsOf_eq hm e]
      have et := tmOf_eq hm
      have hl' : l < m.t.args.length := by rw [← et]; exact hl
      obtain ⟨c, h3, h4⟩ := hk l hl'
      refine ⟨(List.getElem?_eq_some_iff.1 h3).1, ?_⟩
      rw [tmOf_eq h3, h4]
      simp [et]
    · obtain ⟨p, m, f, l, h1, h3, h4, h5, h6, h7⟩ := H.par i i2 hi
      exact ⟨p, l, h4, by rw [tmOf_eq h1]; exact h6, by rw [fsOf_eq h1 h5]; exact h7⟩
    · obtain ⟨m, hm⟩ := some i hi
      rw [tmOf_eq hm] at hv ⊢
      exact (shape_var (H.shp m (mem hm)) hv).1
    · obtain ⟨m, hm⟩ := some i hi
      rw [tmOf_eq hm] at hv ⊢
      exact (shape_fn (H.shp m (mem hm)) hv).1
  refine ⟨hL, ⟨rfl, fun i hi => ?_, fun i hi => ?_⟩, ?_⟩
  · have hm := List.getElem?_eq_getElem hi
    obtain ⟨f, e, _⟩ := H.kids i _ hm hi
    exact ⟨(tmOf_eq hm).symm, by rw [fsOf_eq hm e]; exact e⟩
  · obtain ⟨m, r, mr, h1, h3, h4, h5, _⟩ := head i hi
    rw [hdOf_eq h1 h3]
    obtain ⟨l1, e1⟩ := List.getElem?_eq_some_iff.1 h1
    obtain ⟨l4, e4⟩ := List.getElem?_eq_some_iff.1 h4
    have hr : Upw ns 0 r r := .here r l4 (by rw [e4]; exact h5)
    by_cases e : i = r
    · subst e; exact ⟨0, hr⟩
    · exact ⟨1, .step 0 i r r l1 (by rw [e1]; exact h3) e hr⟩
  · refine ⟨fun i hi => ?_, fun i hi => ?_, fun p hp => ?_, fun θ hθ => ⟨fun i hi => ?_, fun p hp => ?_⟩, fun i hi hv => ?_, fun i hi j hj e fi fj => ?_, fun g hg => hg.2 (0, 1) (by simp), fun i hi j hj vi vj e => ?_⟩
    · obtain ⟨m, r, mr, h1, h3, h4, h5, _⟩ := head i hi
      rw [hdOf_eq h1 h3]; exact (List.getElem?_eq_some_iff.1 h4).1
    · obtain ⟨m, r, mr, h1, h3, h4, h5, _⟩ := head i hi
      rw [hdOf_eq h1 h3, hdOf_eq h4 h5]
    · simp at hp; subst hp; exact ⟨by show 0 < _; omega, by show 1 < _; omega⟩
    · obtain ⟨m, r, mr, h1, h3, h4, h5, h6⟩ := head i hi
      rw [hdOf_eq h1 h3, tmOf_eq h1, tmOf_eq h4]
      rcases h6 with ⟨_, rfl⟩ | ⟨v1, v2, v3⟩
      · rw [h1] at h4; cases h4; rfl
      · rw [appV θ v1, appV θ v2, v3]
    · simp at hp; subst hp
      show (tmOf ns 0).app θ = (tmOf ns 1).app θ
      rw [hL.n0, hL.n1]; exact hθ
    · obtain ⟨m, r, mr, h1, h3, h4, h5, h6⟩ := head i hi
      rw [hdOf_eq h1 h3, tmOf_eq h4] at hv ⊢
      rw [tmOf_eq h1]
      rcases h6 with ⟨_, rfl⟩ | ⟨v1, v2, v3⟩
      · rw [h1] at h4; cases h4; exact ⟨hv, Int.le_refl _⟩
      · exact ⟨v1, by rw [v3]; exact Int.le_refl _⟩
    · obtain ⟨m, r, mr, h1, h3, h4, h5, h6⟩ := head i hi
      obtain ⟨m', r', mr', k1, k3, k4, k5, k6⟩ := head j hj
      rw [hdOf_eq h1 h3, hdOf_eq k1 k3] at e
      rw [tmOf_eq h1] at fi
      rw [tmOf_eq k1] at fj
      have ei : r = i := by
        rcases h6 with ⟨_, e⟩ | ⟨v1, _⟩
        · exact e
        · rw [fi] at v1; cases v1
      have ej : r' = j := by
        rcases k6 with ⟨_, e⟩ | ⟨v1, _⟩
        · exact e
        · rw [fj] at v1; cases v1
      have : i = j := by omega
      subst this
      exact ⟨rfl, rfl, fun g _ l _ => rfl⟩
    · obtain ⟨m, hm⟩ := some i hi
      obtain ⟨m', hm'⟩ := some j hj
      rw [tmOf_eq hm] at vi e
      rw [tmOf_eq hm'] at vj e
      have e1 := H.upv i m hm vi
      have e2 := H.upv j m' hm' vj
      rw [e, e2] at e1
      have e3 : m'.up = m.up := Option.some.inj e1
      unfold hdOf
      rw [hm, hm']
      simp [e3]

end Go.Proofs.Ytblfbmdnkgebdaa

/-
  graph.add, of any term; laid.
-/
namespace Go.Proofs.Ytblfbmdnkgebdaa
open Go.RowKit Go.Maps

theorem add_any (w0 : World) (base g bv : Nat) (ns : List Nd) (ν : Nv) (n : Nat) (v : Value) (W : World) (h : GAt w0 base g bv ns ν n v W) (hb : base ≤ W.heap.size) (hbg : base ≤ g) (hbv : base ≤ bv) (t : T) (sl : Value) (ht : ArgsAt w0 sl t.args) (hs : t.shape = true) (hl : ns.length ≤ 100000) (hn : n ≤ 1000000) :
    Calls Try.prog 52 #[.pointer (some ⟨g, 0, none⟩), tval t sl] W fun e W' => e = .returned (.tuple #[]) ∧ Below base W W' ∧ ∃ v', GAt w0 base g bv (ns ++ [⟨t, sl, 0, upOf ν t ns.length, false, 0, 0⟩]) (nuOf ν t ns.length) (n + incOf ν t) v' W' := by
  obtain ⟨ta, tc, rfl, _, _⟩ := ht.slice
  cases hv : uvar t with
  | false =>
    have e1 : upOf ν t ns.length = (ns.length : Int) := by unfold upOf; rw [if_neg (by rw [hv]; simp)]
    have e2 : nuOf ν t ns.length = ν := by unfold nuOf; rw [if_neg (by rw [hv]; simp)]
    have e3 : incOf ν t = 0 := by unfold incOf; rw [if_neg (by rw [hv]; simp)]
    rw [e1, e2, e3]
    exact add_fn w0 base g bv ns ν n v W h hb hbg t ta tc ht hv hl
  | true =>
    have hF : Fit64 t.v := by have := shape_var hs hv; unfold Fit64; omega
    cases hk : ν t.v with
    | none =>
      have e1 : upOf ν t ns.length = (ns.length : Int) := by unfold upOf; rw [if_pos hv, hk]; rfl
      have e2 : nuOf ν t ns.length = ν.put t.v ns.length := by unfold nuOf; rw [if_pos ⟨hv, hk⟩]
      have e3 : incOf ν t = 1 := by unfold incOf; rw [if_pos ⟨hv, hk⟩]
      rw [e1, e2, e3]
      exact add_new w0 base g bv ns ν n v W h hb hbg t ta tc ht hv hk hF hl hn hbv
    | some k =>
      have e1 : upOf ν t ns.length = k := by unfold upOf; rw [if_pos hv, hk]; rfl
      have e2 : nuOf ν t ns.length = ν := by unfold nuOf; rw [if_neg (fun h => by rw [hk] at h; cases h.2)]
      have e3 : incOf ν t = 0 := by unfold incOf; rw [if_neg (fun h => by rw [hk] at h; cases h.2)]
      rw [e1, e2, e3]
      exact add_old w0 base g bv ns ν n v W h hb hbg t ta tc ht hv k hk hF hl

/-- What laid's loops keep. -/
structure LdI (w : World) (a b : T) (g bv x y : Nat) (ns : List Nd) (ν : Nv) (n : Nat) (v : Value) (W : World) : Prop where
  gat : GAt w w.heap.size g bv ns ν n v W
  bel : Below w.heap.size w W
  lay : LayC a b x y ns ν n
  lg : w.heap.size ≤ g
  lv : w.heap.size ≤ bv
  tot : a.nn + b.nn ≤ 8000

theorem LdI.keep {w : World} {a b : T} {g bv x y : Nat} {ns : List Nd} {ν : Nv} {n : Nat} {v : Value} {W W' : World} (h : LdI w a b g bv x y ns ν n v W) (hb : Below W.heap.size W W') : LdI w a b g bv x y ns ν n v W' :=
  ⟨h.gat.keep hb, h.bel.trans (hb.mono h.bel.size), h.lay, h.lg, h.lv, h.tot⟩

/-- A node more. -/
theorem LdI.add {w : World} {a b : T} {g bv x y : Nat} {ns : List Nd} {ν : Nv} {n : Nat} {v : Value} {W : World} (h : LdI w a b g bv x y ns ν n v W) (t : T) (sl : Value) (ht : ArgsAt w sl t.args) (hs : t.shape = true) (hl : ns.length ≤ 100000)
    (e0 : ns.length = 0 → t = a) (e1 : ns.length = 1 → t = b) (hp : 2 ≤ ns.length → ∃ p m f l, ns[p]? = some m ∧ p < y ∧ m.first = ((f : Nat) : Int) ∧ l < m.t.args.length ∧ ns.length = f + l) :
    Calls Try.prog 52 #[.pointer (some ⟨g, 0, none⟩), tval t sl] W fun e W' => e = .returned (.tuple #[]) ∧ W.heap.size ≤ W'.heap.size ∧ ∃ v', LdI w a b g bv x y (ns ++ [⟨t, sl, 0, upOf ν t ns.length, false, 0, 0⟩]) (nuOf ν t ns.length) (n + incOf ν t) v' W' := by
  refine (add_any w w.heap.size g bv ns ν n v W h.gat h.bel.size h.lg h.lv t sl ht hs hl (by have := h.lay.cnt; omega)).mono ?_
  rintro e W' ⟨rfl, hb, v', hg⟩
  exact ⟨rfl, hb.size, v', hg, h.bel.trans hb, h.lay.add t sl hs e0 e1 hp, h.lg, h.lv, h.tot⟩

/-- The next node gets its first argument's node. -/
theorem LdI.first {w : World} {a b : T} {g bv x : Nat} {ns : List Nd} {ν : Nv} {n bl c : Nat} {W : World} (h : LdI w a b g bv x x ns ν n (.slice (some ⟨bl, 0, none⟩) ns.length c) W) (hx : x < ns.length) (f : Nat) : LdI w a b g bv x (x + 1) (ns.set x { ns[x] with first := (f : Int) }) ν n (.slice (some ⟨bl, 0, none⟩) ns.length c) (W.setCell ⟨bl, x * 8 + 3, none⟩ (.int .i64 (f : Int))) :=
  ⟨h.gat.write hx (j := 3) (by omega) rfl (h.gat.args ns[x] (List.getElem_mem hx)), h.bel.setCell (p := ⟨bl, _, none⟩) (h.gat.row.lt bl rfl).1 _, h.lay.first hx f, h.lg, h.lv, h.tot⟩

end Go.Proofs.Ytblfbmdnkgebdaa

/-
  laid: the walk.
-/
namespace Go.Proofs.Ytblfbmdnkgebdaa
open Go.RowKit Go.Maps

theorem hid {p : Prop} (h : p) : Hid p := h
theorem nn_sum {t : T} : t.nn - 1 = ((t.args).map T.nn).sum := by rw [T.nn_eq]; omega
theorem take_sum (l : List T) (k : Nat) (h : k < l.length) : ((l.take (k + 1)).map T.nn).sum = ((l.take k).map T.nn).sum + l[k].nn := by
  rw [List.take_succ_eq_append_getElem h, List.map_append, List.sum_append]; simp
theorem take_le (l : List T) (k : Nat) : ((l.take k).map T.nn).sum ≤ (l.map T.nn).sum := by
  conv => rhs; rw [← List.take_append_drop k l]
  rw [List.map_append, List.sum_append]; omega

/-- Inside: k arguments of node x are laid, from node f on. -/
structure LdK (w : World) (a b : T) (g bv x f k : Nat) (m : Nd) (ns : List Nd) (ν : Nv) (n : Nat) (v : Value) (W : World) : Prop where
  i : LdI w a b g bv x (x + 1) ns ν n v W
  nx : ns[x]? = some m
  fm : m.first = (f : Int)
  len : ns.length = f + k
  kids : ∀ l (hl : l < m.t.args.length), l < k → ∃ c, ns[f + l]? = some c ∧ c.t = m.t.args[l]
  kl : k ≤ m.t.args.length
  two : 2 ≤ ns.length
  sum : ns.length + rest x ns = a.nn + b.nn + ((m.t.args.take k).map T.nn).sum

theorem LdK.bound {w : World} {a b : T} {g bv x f k : Nat} {m : Nd} {ns : List Nd} {ν : Nv} {n : Nat} {v : Value} {W : World} (h : LdK w a b g bv x f k m ns ν n v W) : ns.length ≤ 100000 := by
  have h1 := h.sum
  have h2 := h.i.tot
  obtain ⟨hx, e⟩ := List.getElem?_eq_some_iff.1 h.nx
  have h3 := rest_roll x ns hx
  rw [e, nn_sum] at h3
  have h4 := take_le m.t.args k
  omega

/-- One argument more. -/
theorem LdK.next {w : World} {a b : T} {g bv x f k : Nat} {m : Nd} {ns : List Nd} {ν : Nv} {n : Nat} {v v' : Value} {W W' : World} (h : LdK w a b g bv x f k m ns ν n v W) (hk : k < m.t.args.length) {sl : Value} {u : Int} {ν' : Nv} {n' : Nat} (hi : LdI w a b g bv x (x + 1) (ns ++ [⟨m.t.args[k], sl, 0, u, false, 0, 0⟩]) ν' n' v' W') : LdK w a b g bv x f (k + 1) m (ns ++ [⟨m.t.args[k], sl, 0, u, false, 0, 0⟩]) ν' n' v' W' := by
  have hx := (List.getElem?_eq_some_iff.1 h.nx).1
  refine ⟨hi, by rw [List.getElem?_append_left hx]; exact h.nx, h.fm, by rw [List.length_append, h.len]; rfl, fun l hl hlk => ?_, hk, by rw [List.length_append]; have := h.two; omega, ?_⟩
  · by_cases e : l < k
    · obtain ⟨c, h1, h2⟩ := h.kids l hl e
      exact ⟨c, by rw [List.getElem?_append_left (List.getElem?_eq_some_iff.1 h1).1]; exact h1, h2⟩
    · obtain rfl : l = k := by omega
      refine ⟨⟨m.t.args[l], sl, 0, u, false, 0, 0⟩, ?_, rfl⟩
      rw [List.getElem?_append_right (by have := h.len; omega), h.len]
      simp
  · rw [rest_add x ns _ (by omega), take_sum _ _ hk, List.length_append]
    have := h.sum
    have := T.nn_pos m.t.args[k]
    show ns.length + 1 + (rest x ns + (m.t.args[k].nn - 1)) = _
    omega

/-- Ahead of a node. -/
structure LdO (w : World) (a b : T) (g bv x : Nat) (ns : List Nd) (ν : Nv) (n : Nat) (v : Value) (W : World) : Prop where
  i : LdI w a b g bv x x ns ν n v W
  two : 2 ≤ ns.length
  sum : ns.length + rest x ns = a.nn + b.nn

theorem LdK.done {w : World} {a b : T} {g bv x f k : Nat} {m : Nd} {ns : List Nd} {ν : Nv} {n : Nat} {v : Value} {W : World} (h : LdK w a b g bv x f k m ns ν n v W) (hk : m.t.args.length ≤ k) : LdO w a b g bv (x + 1) ns ν n v W := by
  obtain ⟨hx, e⟩ := List.getElem?_eq_some_iff.1 h.nx
  refine ⟨⟨h.i.gat, h.i.bel, h.i.lay.roll h.nx h.fm (fun l hl => h.kids l hl (by omega)), h.i.lg, h.i.lv, h.i.tot⟩, h.two, ?_⟩
  have h1 := h.sum
  have h3 := rest_roll x ns hx
  rw [List.take_of_length_le hk] at h1
  rw [e, nn_sum] at h3
  omega

theorem LdO.first {w : World} {a b : T} {g bv x : Nat} {ns : List Nd} {ν : Nv} {n bl c : Nat} {W W' : World} (h : LdO w a b g bv x ns ν n (.slice (some ⟨bl, 0, none⟩) ns.length c) W) (hx : x < ns.length) (hW : W' = W.setCell ⟨bl, x * 8 + 3, none⟩ (.int .i64 (ns.length : Int)) ∨ W' = (W.setCell ⟨bl, x * 8 + 3, none⟩ (.int .i64 (ns.length : Int))).drew) : LdK w a b g bv x ns.length 0 { ns[x] with first := (ns.length : Int) } (ns.set x { ns[x] with first := (ns.length : Int) }) ν n (.slice (some ⟨bl, 0, none⟩) ns.length c) W' := by
  have hi := h.i.first hx ns.length
  have hi' : LdI w a b g bv x (x + 1) (ns.set x { ns[x] with first := (ns.length : Int) }) ν n (.slice (some ⟨bl, 0, none⟩) ns.length c) W' := by
    rcases hW with rfl | rfl
    · exact hi
    · exact ⟨⟨hi.gat.box, hi.gat.row, hi.gat.map.same rfl, hi.gat.args, hi.gat.ne, hi.gat.own⟩, ⟨hi.bel.os, hi.bel.tape, hi.bel.output, hi.bel.size, hi.bel.block⟩, hi.lay, hi.lg, hi.lv, hi.tot⟩
  refine ⟨hi', by rw [List.getElem?_set_self hx], rfl, by rw [List.length_set]; rfl, fun l _ h => by omega, Nat.zero_le _, by rw [List.length_set]; exact h.two, ?_⟩
  rw [List.length_set, rest_set]
  simpa using h.sum

/-- The graph when all is laid. -/
def LaidP (w : World) (a b : T) (e : Ending) (W : World) : Prop := ∃ g bv ns ν n v, e = .returned (.pointer (some ⟨g, 0, none⟩)) ∧ LdO w a b g bv ns.length ns ν n v W

theorem vm_none : vm (fun _ => none) = fun _ => none := by
  funext x
  unfold vm
  split <;> rfl

theorem LdI.start (w : World) (a b : T) (hN : a.nn + b.nn ≤ 8000) : LdI w a b (w.heap.size + 1) w.heap.size 0 0 [] (fun _ => none) 0 (.slice none 0 0) ((w.alloc (.map #[] 0)).alloc (.cells #[.slice none 0 0, .map (some w.heap.size)] 51)) := by
  have b1 := below_box w (.map #[] 0)
  have b2 := below_box (w.alloc (.map #[] 0)) (.cells #[.slice none 0 0, .map (some w.heap.size)] 51)
  refine ⟨⟨?_, World.ownsRow_nil _ _ _ _, ?_, (fun m hm => by cases hm), by omega, by simp [Value.ownBlock]⟩, b1.trans (b2.mono (by simp)), LayC.nil a b, by omega, by omega, hN⟩
  · have := (MapKept.heap_alloc (w.alloc (.map #[] 0)) (.cells #[.slice none 0 0, .map (some w.heap.size)] 51)).1
    rw [World.size_alloc] at this
    exact this
  · rw [vm_none]
    exact (MapIs.made w 3).same (b2.block _ (by simp))

set_option maxRecDepth 100000 in
set_option maxHeartbeats 4000000 in
theorem laid_any (a b : T) (sa sb : Value) (w : World) (ha : ArgsAt w sa a.args) (hb : ArgsAt w sb b.args) (hsa : a.shape = true) (hsb : b.shape = true) (hN : a.nn + b.nn ≤ 8000) :
    Calls Try.prog 25 #[tval a sa, tval b sb] w fun e W => LaidP (tbox2 w a sa b sb) a b e W := by
  obtain ⟨aa, ac, rfl, _, _⟩ := ha.slice
  obtain ⟨ba, bc, rfl, _, _⟩ := hb.slice
  obtain ⟨w2, hw2⟩ : ∃ w2, w2 = tbox2 w a (.slice aa a.args.length ac) b (.slice ba b.args.length bc) := ⟨_, rfl⟩
  have hb2 : Below w.heap.size w w2 := by rw [hw2]; exact below_box2 w _ _
  have e2 : w2.heap.size = w.heap.size + 1 + 1 := by rw [hw2]; simp
  have HE2 : Hid (w2.heap.size = w.heap.size + 1 + 1) := e2
  have HS := LdI.start w2 a b hN
  have H0 : Hid (ArgsAt w2 (.slice aa a.args.length ac) a.args ∧ ArgsAt w2 (.slice ba b.args.length bc) b.args ∧ a.shape = true ∧ b.shape = true ∧ a.nn + b.nn ≤ 8000) := ⟨ha.keep hb2 (Nat.le_refl _), hb.keep hb2 (Nat.le_refl _), hsa, hsb, hN⟩
  obtain ⟨q0, q1, q2⟩ := tbox_cells (w.alloc (tbox a (.slice aa a.args.length ac))) b (.slice ba b.args.length bc)
  rw [World.size_alloc] at q0 q1 q2
  have HQ : Hid (w2.cell? ⟨w.heap.size + 1, 0, none⟩ = some (.int .i64 b.v) ∧ w2.cell? ⟨w.heap.size + 1, 1, none⟩ = some (.string b.fn) ∧ w2.cell? ⟨w.heap.size + 1, 2, none⟩ = some (.slice ba b.args.length bc)) := by rw [hw2]; exact ⟨q0, q1, q2⟩
  have HW : Hid (w2 = tbox2 w a (.slice aa a.args.length ac) b (.slice ba b.args.length bc)) := hw2
  rw [← hw2]
  rw [hw2] at HS
  have HS' : Hid (LdI (tbox2 w a (.slice aa a.args.length ac) b (.slice ba b.args.length bc)) a b (w.heap.size + 1 + 1 + 1) (w.heap.size + 1 + 1) 0 0 [] (fun _ => none) 0 (.slice none 0 0) (((tbox2 w a (.slice aa a.args.length ac) b (.slice ba b.args.length bc)).alloc (.map #[] 0)).alloc (.cells #[.slice none 0 0, .map (some (w.heap.size + 1 + 1))] 51))) := by
    have := HS
    simp only [World.size_alloc] at this
    exact this
  clear ha hb hsa hsb hN q0 q1 q2 HS hw2 e2
  have hmm := @run_makeMap Try.prog
  go_enter Try.func25, Try.ntmps25
  go_wp2_with fail
  refine (HS'.out.add a (.slice aa a.args.length ac) (by rw [← HW.out]; exact H0.out.1) H0.out.2.2.1 (by simp) (fun _ => rfl) (fun h => by cases h) (fun h => by simp at h)).mono ?_
  rintro e W5 ⟨rfl, hs5, v5, h5⟩
  rw [← HW.out] at h5
  have c0 := (h5.bel.cell (p := ⟨w.heap.size + 1, 0, none⟩) (by show w.heap.size + 1 < w2.heap.size; have := HE2.out; omega)).trans HQ.out.1
  have c1 := (h5.bel.cell (p := ⟨w.heap.size + 1, 1, none⟩) (by show w.heap.size + 1 < w2.heap.size; have := HE2.out; omega)).trans HQ.out.2.1
  have c2 := (h5.bel.cell (p := ⟨w.heap.size + 1, 2, none⟩) (by show w.heap.size + 1 < w2.heap.size; have := HE2.out; omega)).trans HQ.out.2.2
  have H5 := hid h5
  clear h5 HS'
  go_wp2_with fail
  refine (H5.out.add b (.slice ba b.args.length bc) H0.out.2.1 H0.out.2.2.2.1 (by simp) (fun h => by simp at h) (fun _ => rfl) (fun h => by simp at h)).mono ?_
  rintro e W6 ⟨rfl, hs6, v6, h6⟩
  obtain ⟨ns6, hn6, l6, r6⟩ : ∃ ns : List Nd, ns = ([] ++ [⟨a, .slice aa a.args.length ac, 0, upOf (fun _ => none) a 0, false, 0, 0⟩]) ++ [⟨b, .slice ba b.args.length bc, 0, upOf (nuOf (fun _ => none) a 0) b 1, false, 0, 0⟩] ∧ ns.length = 2 ∧ ns.length + rest 0 ns = a.nn + b.nn := by
    refine ⟨_, rfl, rfl, ?_⟩
    have := T.nn_pos a
    have := T.nn_pos b
    simp [rest]
    omega
  have H6 : Hid (∃ ns ν n v, LdO w2 a b (w.heap.size + 1 + 1 + 1) (w.heap.size + 1 + 1) 0 ns ν n v W6) := ⟨ns6, _, _, v6, by rw [hn6]; exact h6, by omega, r6⟩
  clear h6 hn6 l6 r6 c0 c1 c2 H5 ns6
  go_wp2
  go_loopw [6] (fun vx wr => ∃ x : Nat, vx = .int .i64 x ∧ Hid (∃ ns ν n v, LdO w2 a b (w.heap.size + 1 + 1 + 1) (w.heap.size + 1 + 1) x ns ν n v wr)) (fun vx _ => a.nn + b.nn - (intOf vx).toNat)
  case atStart => exact ⟨0, rfl, H6.out⟩
  case round =>
    obtain ⟨x, rfl, ns, ν, n, v, hO⟩ := hrel
    obtain ⟨va, vc, rfl⟩ := rowB_form hO.i.gat.row
    have g0 : wr.cell? ⟨w.heap.size + 1 + 1 + 1, 0, none⟩ = some (.slice va ns.length vc) := by simp [World.cell?, hO.i.gat.box]
    by_cases hx : x < ns.length
    · obtain ⟨bl, c', e, hbl, hf⟩ := hO.i.gat.field hx
      cases e
      have x2 := hf 2 _ rfl
      have x3 := hf 3 _ rfl
      have fz := hO.i.gat.row.frozenAt (x * 8 + 3)
      have j0 : (0 : Int) ≤ (x : Int) := Int.natCast_nonneg x
      have j1 : (x : Int) < (ns.length : Int) := by omega
      have hgb : w.heap.size + 1 + 1 + 1 ≠ bl := fun e => hO.i.gat.own.1 (by rw [e]; rfl)
      have hA := hO.i.gat.args ns[x] (List.getElem_mem hx)
      obtain ⟨sa, sc, hsl, _, _⟩ := hA.slice
      rw [hsl] at x2 hA
      have HK : Hid (LdK w2 a b (w.heap.size + 1 + 1 + 1) (w.heap.size + 1 + 1) x ns.length 0 { ns[x] with first := (ns.length : Int) } (ns.set x { ns[x] with first := (ns.length : Int) }) ν n (.slice (some ⟨bl, 0, none⟩) ns.length vc) ((wr.setCell ⟨bl, x * 8 + 3, none⟩ (.int .i64 (ns.length : Int))).drew)) := hO.first hx (.inr rfl)
      have g1 : ((wr.setCell ⟨bl, x * 8 + 3, none⟩ (.int .i64 (ns.length : Int))).drew).cell? ⟨w.heap.size + 1 + 1 + 1, 0, none⟩ = some (.slice (some ⟨bl, 0, none⟩) ns.length vc) := by
        show (wr.setCell ⟨bl, x * 8 + 3, none⟩ (.int .i64 (ns.length : Int))).cell? _ = _
        exact (World.cell?_of_block (a := ⟨_, 0, none⟩) (Below.heap_setCell _ _ _ _ hgb)).trans g0
      have x2' : ((wr.setCell ⟨bl, x * 8 + 3, none⟩ (.int .i64 (ns.length : Int))).drew).cell? ⟨bl, x * 8 + 2, none⟩ = some (.slice sa ns[x].t.args.length sc) := by
        show (wr.setCell ⟨bl, x * 8 + 3, none⟩ (.int .i64 (ns.length : Int))).cell? _ = _
        exact (World.cell?_setCell_other wr ⟨bl, x * 8 + 3, none⟩ ⟨bl, x * 8 + 2, none⟩ _ (by simp)).trans x2
      have HT : Hid (x < a.nn + b.nn) := by show x < _; have := hO.sum; omega
      have HA : Hid (ArgsAt w2 (.slice sa ns[x].t.args.length sc) ns[x].t.args) := hA
      clear hf hO hA hsl
      go_wp2
      go_region
      obtain ⟨W7, hW7⟩ : ∃ W7, (wr.setCell ⟨bl, x * 8 + 3, none⟩ (.int .i64 (ns.length : Int))).drew = W7 := ⟨_, rfl⟩
      rw [hW7] at HK g1 x2' ⊢
      clear hW7 x2 x3 g0 fz hgb
      go_wp2
      go_loopw [49] (fun vk wq => ∃ k : Nat, vk = .int .i64 k ∧ k ≤ ns[x].t.args.length ∧ Hid (∃ ns' ν n v, LdK w2 a b (w.heap.size + 1 + 1 + 1) (w.heap.size + 1 + 1) x ns.length k { ns[x] with first := (ns.length : Int) } ns' ν n v wq)) (fun vk _ => ns[x].t.args.length - (intOf vk).toNat)
      case atStart => exact ⟨0, rfl, Nat.zero_le _, _, _, _, _, HK.out⟩
      case round =>
        obtain ⟨k, rfl, hk, ns', ν', n', v', hK⟩ := hrel
        obtain ⟨wq, hwq⟩ : ∃ W, W = wr := ⟨_, rfl⟩
        rw [← hwq] at hK ⊢
        clear hwq
        by_cases hlt : k < ns[x].t.args.length
        · obtain ⟨eb, eo, es, rfl, hebl, y0, y1, y2, hsub⟩ := HA.out.nth hlt
          have z0 := kc hK.i.bel hebl y0
          have z1 := kc hK.i.bel hebl y1
          have z2 := kc hK.i.bel hebl y2
          obtain ⟨ea, ec, rfl, _, _⟩ := hsub.slice
          have k0 : (0 : Int) ≤ (k : Int) := Int.natCast_nonneg k
          have k1 : (k : Int) < (ns[x].t.args.length : Int) := by omega
          have HKK := hid hK
          have HSB := hid hsub
          clear hK y0 y1 y2 hsub
          have HT2 := hid HKK.out.bound
          have HSH : Hid (ns[x].t.args[k].shape = true) := shapeArg (HKK.out.i.lay.shp _ (List.mem_of_getElem? HKK.out.nx)) hlt
          go_wp2_with fail
          refine ((HKK.out.i.keep (below_box wq (tbox ns[x].t.args[k] (.slice ea ns[x].t.args[k].args.length ec)))).add ns[x].t.args[k] (.slice ea ns[x].t.args[k].args.length ec) HSB.out HSH.out HT2.out (fun h => by have := HKK.out.two; omega) (fun h => by have := HKK.out.two; omega) (fun _ => ⟨x, _, ns.length, k, HKK.out.nx, by omega, HKK.out.fm, hlt, HKK.out.len⟩)).mono ?_
          rintro e W8 ⟨rfl, hs8, v8, h8⟩
          have HE : Hid (∃ ns' ν n v, LdK w2 a b (w.heap.size + 1 + 1 + 1) (w.heap.size + 1 + 1) x ns.length (k + 1) { ns[x] with first := (ns.length : Int) } ns' ν n v W8) := ⟨_, _, _, _, HKK.out.next hlt h8⟩
          clear h8 hs8
          go_wp2
          go_roundw
          case rel => exact ⟨k + 1, by go_num, by omega, HE.out⟩
          case measure => simp [intOf]; omega
        · have HE : Hid (∃ ns ν n v, LdO w2 a b (w.heap.size + 1 + 1 + 1) (w.heap.size + 1 + 1) (x + 1) ns ν n v wq) := ⟨_, _, _, _, hK.done (by show ns[x].t.args.length ≤ k; omega)⟩
          clear hK
          have hx8 : x < 8000 := by have := HT.out; have := H0.out.2.2.2.2; omega
          go_wp2
          go_roundw
          all_goals have ht := HT.out
          all_goals have hn := H0.out.2.2.2.2
          case rel => exact ⟨x + 1, by go_num, HE.out⟩
          case measure => simp [intOf]; omega
    · have hxl := hO.i.lay.xl
      obtain rfl : x = ns.length := by omega
      have HE : Hid (LaidP w2 a b (.returned (.pointer (some ⟨w.heap.size + 1 + 1 + 1, 0, none⟩))) wr) := ⟨_, _, ns, _, _, _, rfl, hO⟩
      clear hO hxl hx
      go_wp2
      go_ret
      exact HE.out

end Go.Proofs.Ytblfbmdnkgebdaa
