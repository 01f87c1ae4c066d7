/-
  The document's Shift at a term.
-/
import Derived.Test.YtiklbkkimmgbcaaB
import Derived.Test.YtiklbkkimmgbcaaFQ
namespace Go.Proofs.Ytiklbkkimmgbcaa
open Go.RowKit

/-- The term with what σ tells in place of each variable. -/
def T.app (σ : Int → T) : T → T
  | .mk v fn args => if fn.size = 0 then σ v else .mk 0 fn (apps args)
where apps : List T → List T
  | [] => []
  | a :: r => T.app σ a :: apps r

theorem T.app_eq (σ : Int → T) (t : T) : t.app σ = if t.fn.size = 0 then σ t.v else .mk 0 t.fn (t.args.map (T.app σ)) := by
  have h : ∀ l : List T, T.app.apps σ l = l.map (T.app σ) := by
    intro l
    induction l with
    | nil => rfl
    | cons a r ih => simp [T.app.apps, ih]
  cases t with
  | mk v fn args => simp [T.app, T.v, T.fn, T.args, h]

theorem box_facts {X : World} {n : Nat} {u v s : Value} (h : X.heap[n]? = some (.cells #[u, v, s] 24 (0, 0))) : (X.cell? ⟨n, 0, none⟩ = some u ∧ X.cell? ⟨n, 1, none⟩ = some v ∧ X.cell? ⟨n, 2, none⟩ = some s) ∧ (X.frozen? ⟨n, 0, none⟩ = false ∧ X.frozen? ⟨n, 1, none⟩ = false ∧ X.frozen? ⟨n, 2, none⟩ = false) := by
  refine ⟨⟨?_, ?_, ?_⟩, ⟨?_, ?_, ?_⟩⟩ <;> simp [World.cell?, World.frozen?, h]

/-- Three cells of one block are written. -/
abbrev set3 (W : World) (b o : Nat) (u v s : Value) : World := ((W.setCell ⟨b, o, none⟩ u).setCell ⟨b, o + 1, none⟩ v).setCell ⟨b, o + 2, none⟩ s

theorem set3_other (W : World) (b o : Nat) (u v s : Value) (k : Nat) (h : k ≠ b) : (set3 W b o u v s).heap[k]? = W.heap[k]? := by
  rw [Below.heap_setCell _ _ _ k h, Below.heap_setCell _ _ _ k h, Below.heap_setCell _ _ _ k h]

theorem set3_size (W : World) (b o : Nat) (u v s : Value) : (set3 W b o u v s).heap.size = W.heap.size := by simp

theorem set3_below {n : Nat} {w W : World} (h : Below n w W) (b o : Nat) (u v s : Value) (hb : n ≤ b) : Below n w (set3 W b o u v s) :=
  ((h.setCell (p := ⟨b, o, none⟩) hb _).setCell (p := ⟨b, o + 1, none⟩) hb _).setCell (p := ⟨b, o + 2, none⟩) hb _

theorem Try.info24 : (Try.prog.info? 24).map (fun i => (i.zero, i.size, i.bytes)) = some (some (.agg #[.int .i64 0, .string ⟨#[]⟩, .slice none 0 0]), 3, 48) := by kernel_rfl

/-- A slice of terms in blocks of which P holds. -/
inductive ArgsP (P : Nat → Prop) (W : World) : Value → List T → Prop
  | mk (a : Option Addr) (c : Nat) (l : List T) (s : Nat → Value) (hc : l.length ≤ c) (hm : c ≤ 9223372036854775807)
      (at0 : 0 < l.length → ∃ b o, P b ∧ b < W.heap.size ∧ a = some ⟨b, o, none⟩ ∧ ∀ i (h : i < l.length), W.cell? ⟨b, o + i * 3, none⟩ = some (.int .i64 l[i].v) ∧ W.cell? ⟨b, o + i * 3 + 1, none⟩ = some (.string l[i].fn) ∧ W.cell? ⟨b, o + i * 3 + 2, none⟩ = some (s i))
      (sub : ∀ i (h : i < l.length), ArgsP P W (s i) l[i].args) : ArgsP P W (.slice a l.length c) l

theorem ArgsP.args {P : Nat → Prop} {W : World} {sl : Value} {l : List T} (h : ArgsP P W sl l) : ArgsAt W sl l := by
  induction h with
  | mk a c l s hc hm at0 sub ih =>
    refine .mk a c l s hc hm (fun h0 => ?_) ih
    obtain ⟨b, o, _, hlt, rfl, hcell⟩ := at0 h0
    exact ⟨b, o, hlt, rfl, hcell⟩

theorem ArgsP.keep {P P' : Nat → Prop} {W W' : World} {sl : Value} {l : List T} (h : ArgsP P W sl l) (hs : W.heap.size ≤ W'.heap.size) (hk : ∀ k, P k → k < W.heap.size → P' k ∧ W'.heap[k]? = W.heap[k]?) : ArgsP P' W' sl l := by
  induction h with
  | mk a c l s hc hm at0 sub ih =>
    refine .mk a c l s hc hm (fun h0 => ?_) ih
    obtain ⟨b, o, hn, hlt, rfl, hcell⟩ := at0 h0
    obtain ⟨hp, e⟩ := hk b hn hlt
    refine ⟨b, o, hp, Nat.lt_of_lt_of_le hlt hs, rfl, fun i hi => ?_⟩
    obtain ⟨h1, h2, h3⟩ := hcell i hi
    exact ⟨(World.cell?_of_block (a := ⟨b, _, none⟩) e).trans h1, (World.cell?_of_block (a := ⟨b, _, none⟩) e).trans h2, (World.cell?_of_block (a := ⟨b, _, none⟩) e).trans h3⟩

theorem ArgsP.nil (P : Nat → Prop) (W : World) : ArgsP P W (.slice none 0 0) [] :=
  .mk none 0 [] (fun _ => .slice none 0 0) (Nat.le_refl _) (by decide) (fun h => absurd h (by simp)) (fun i h => absurd h (by simp))

theorem ArgsP.slice {P : Nat → Prop} {W : World} {sl : Value} {l : List T} (h : ArgsP P W sl l) : ∃ a c, sl = .slice a l.length c := by
  cases h with
  | mk a c l s hc hm at0 sub => exact ⟨a, c, rfl⟩

/-- The cells of a row of terms. -/
def flatT (ps : List (T × Value)) : List Value := ps.flatMap fun p => [.int .i64 p.1.v, .string p.1.fn, p.2]

theorem flatT_snoc (ps : List (T × Value)) (p : T × Value) : flatT (ps ++ [p]) = flatT ps ++ [.int .i64 p.1.v, .string p.1.fn, p.2] := by simp [flatT]

theorem flatT_get : ∀ (ps : List (T × Value)) (i : Nat) (h : i < ps.length), (flatT ps)[i * 3]? = some (.int .i64 ps[i].1.v) ∧ (flatT ps)[i * 3 + 1]? = some (.string ps[i].1.fn) ∧ (flatT ps)[i * 3 + 2]? = some ps[i].2
  | [], i, h => absurd h (by simp)
  | p :: r, 0, _ => by simp [flatT]
  | p :: r, i + 1, h => by
    have ih := flatT_get r i (by simpa using h)
    have e : flatT (p :: r) = [.int .i64 p.1.v, .string p.1.fn, p.2] ++ flatT r := rfl
    have hs : ∀ k, (flatT (p :: r))[3 + k]? = (flatT r)[k]? := fun k => by
      rw [e, List.getElem?_append_right (by simp)]
      simp
    have e0 : (i + 1) * 3 = 3 + i * 3 := by omega
    rw [e0, show 3 + i * 3 + 1 = 3 + (i * 3 + 1) by omega, show 3 + i * 3 + 2 = 3 + (i * 3 + 2) by omega, hs, hs, hs]
    simpa using ih

theorem argsP_of_row {W : World} {base n : Nat} {P : Nat → Prop} {v : Value} {l : List T} {ps : List (T × Value)} (h : W.ownsRow base 24 3 v n (flatT ps)) (hn : l.length = n) (hps : ps.map (·.1) = l) (hP : ∀ b, base ≤ b → P b) (hsl : ∀ p ∈ ps, ArgsP P W p.2 p.1.args) : ArgsP P W v l := by
  subst hn
  have hlen : ps.length = l.length := by rw [← hps]; simp
  have hi : ∀ i (h : i < l.length), (ps[i]'(by omega)).1 = l[i] := fun i h => by subst hps; simp
  have sub : ∀ i (h : i < l.length), ArgsP P W ((fun i => (ps[i]?.map (·.2)).getD undef) i) l[i].args := by
    intro i hil
    have := hsl (ps[i]'(by omega)) (List.getElem_mem _)
    rw [hi i hil] at this
    simpa only [List.getElem?_eq_getElem (show i < ps.length by omega), Option.map_some, Option.getD_some] using this
  rcases h.2 with ⟨e, hn⟩ | ⟨g, cap, cur, e, hb, hg, hcap, hmax, hsz, htk⟩
  · have : l = [] := List.length_eq_zero_iff.1 hn
    subst this
    subst e
    exact ArgsP.nil P W
  · subst e
    refine .mk _ cap l _ hcap (by unfold maxLen at hmax; omega) (fun h0 => ⟨g, 0, hP g hb, (Array.getElem?_eq_some_iff.1 hg).1, rfl, fun i hil => ?_⟩) sub
    obtain ⟨f1, f2, f3⟩ := flatT_get ps i (by omega)
    have look : ∀ j u, j < l.length * 3 → (flatT ps)[j]? = some u → W.cell? ⟨g, 0 + j, none⟩ = some u := fun j u hj hu => by
      rw [Nat.zero_add, cell_of_row _ _ _ _ 24 (0, 0) hg]
      rw [← htk, List.getElem?_take_of_lt hj] at hu
      simpa using hu
    rw [hi i hil] at f1 f2
    refine ⟨look _ _ (by omega) f1, ?_, ?_⟩
    · exact look _ _ (by omega) f2
    · refine (look _ _ (by omega) f3).trans ?_
      simp only [List.getElem?_eq_getElem (show i < ps.length by omega), Option.map_some, Option.getD_some]

theorem row_below {W W' : World} {b : Nat} {e : TypeId} {s : Nat} {v : Value} {n : Nat} {xs : List Value} (h : W.ownsRow b e s v n xs) (hb : Below W.heap.size W W') : W'.ownsRow b e s v n xs :=
  h.kept (row := none) ⟨hb.os, hb.tape, hb.output, hb.size, fun k hk _ => hb.block k hk⟩ (by cases v.ownBlock <;> simp)

/-- The variables' numbers, from the left. -/
def T.vs : T → List Int
  | .mk v fn args => (if fn.size = 0 then [v] else []) ++ go args
where go : List T → List Int
  | [] => []
  | a :: r => T.vs a ++ go r

theorem T.vs_eq (t : T) : t.vs = (if t.fn.size = 0 then [t.v] else []) ++ (t.args.map T.vs).flatten := by
  have h : ∀ l : List T, T.vs.go l = (l.map T.vs).flatten := by
    intro l
    induction l with
    | nil => rfl
    | cons a r ih => simp [T.vs.go, ih]
  cases t with
  | mk v fn args => simp [T.vs, T.v, T.fn, T.args, h]

def var (n : Int) : T := .mk n ⟨#[]⟩ []

/-- The variable of the shifted number. -/
def shf (by_ : Int) (n : Int) : T := var (wrap64 (n + by_))

/-- May the number be shifted? -/
def fine (by_ n : Int) : Bool := !(decide (by_ < -n) || decide (1000000 - n ≤ by_))

/-- The zero term. -/
abbrev zt : T := .mk 0 ⟨#[]⟩ []

attribute [local go_sem] Oper.semAt_some

/-- May each of its numbers be shifted? -/
def fineT (by_ : Int) (t : T) : Bool := t.vs.all (fine by_)

/-- A bind: a variable's number, and what stands for it. -/
abbrev Bd := Int × T

/-- What is read of one bind. -/
structure BindAt (W : World) (b o : Nat) (x : Bd) (s : Value) : Prop where
  lt : b < W.heap.size
  c0 : W.cell? ⟨b, o, none⟩ = some (.int .i64 x.1)
  c1 : W.cell? ⟨b, o + 1, none⟩ = some (.int .i64 x.2.v)
  c2 : W.cell? ⟨b, o + 2, none⟩ = some (.string x.2.fn)
  c3 : W.cell? ⟨b, o + 3, none⟩ = some s
  sub : ArgsAt W s x.2.args

theorem BindAt.keep {W W' : World} {b o : Nat} {x : Bd} {s : Value} (h : BindAt W b o x s) (hb : Below W.heap.size W W') : BindAt W' b o x s :=
  ⟨Nat.lt_of_lt_of_le h.lt hb.size, kc hb h.lt h.c0, kc hb h.lt h.c1, kc hb h.lt h.c2, kc hb h.lt h.c3, ArgsAt.keep hb (Nat.le_refl _) h.sub⟩

/-- A slice of binds, as it lies in memory. -/
def BindsAt (W : World) (v : Value) (l : List Bd) : Prop :=
  ∃ a c, v = .slice a l.length c ∧ l.length ≤ c ∧ c ≤ 9223372036854775807 ∧ (0 < l.length → ∃ b o, a = some ⟨b, o, none⟩ ∧ ∀ i (h : i < l.length), ∃ s, BindAt W b (o + i * 4) l[i] s)

theorem BindsAt.keep {W W' : World} {v : Value} {l : List Bd} (h : BindsAt W v l) (hb : Below W.heap.size W W') : BindsAt W' v l := by
  obtain ⟨a, c, rfl, h1, h2, h3⟩ := h
  refine ⟨a, c, rfl, h1, h2, fun h0 => ?_⟩
  obtain ⟨b, o, rfl, h4⟩ := h3 h0
  exact ⟨b, o, rfl, fun i hi => by obtain ⟨s, hs⟩ := h4 i hi; exact ⟨s, hs.keep hb⟩⟩

theorem BindsAt.slice {W : World} {v : Value} {l : List Bd} (h : BindsAt W v l) : ∃ a c, v = .slice a l.length c := by
  obtain ⟨a, c, rfl, _⟩ := h
  exact ⟨a, c, rfl⟩

theorem BindsAt.nth {W : World} {a : Option Addr} {c n : Nat} {l : List Bd} (h : BindsAt W (.slice a n c) l) {i : Nat} (hi : i < l.length) : ∃ b o s, a = some ⟨b, o, none⟩ ∧ BindAt W b (o + i * 4) l[i] s := by
  obtain ⟨a', c', e, h1, h2, h3⟩ := h
  cases e
  obtain ⟨b, o, rfl, h4⟩ := h3 (by omega)
  obtain ⟨s, hs⟩ := h4 i hi
  exact ⟨b, o, s, rfl, hs⟩

/-- What a round of Put leaves. -/
structure PutI (W0 w : World) (t : T) (sl : Value) (σ : Int → T) (k : Nat) (v : Value) (ps : List (T × Value)) (W : World) : Prop where
  args : ps.map (·.1) = (t.args.take k).map (T.app σ)
  ok : ∀ p ∈ ps, ArgsP (fun b => (b < W0.heap.size ∨ w.heap.size + 3 ≤ b) ∧ v.ownBlock ≠ some b) W p.2 p.1.args
  row : W.ownsRow (w.heap.size + 3) 24 3 v k (flatT ps)
  out : W.heap[w.heap.size + 1 + 1]? = some (.cells #[.int .i64 0, .string t.fn, v] 24 (0, 0))
  tb : W.heap[w.heap.size]? = some (.cells #[.int .i64 t.v, .string t.fn, sl] 24 (0, 0))
  rb : W.heap[w.heap.size + 1]? = some (.cells #[.int .i64 0, .string ⟨#[]⟩, .slice none 0 0] 24 (0, 0))
  bel : Below w.heap.size w W
  siz : w.heap.size + 3 ≤ W.heap.size

theorem put_end {W0 w : World} {t : T} {sl : Value} {σ : Int → T} {k : Nat} {v : Value} {ps : List (T × Value)} {wr : World} (h : PutI W0 w t sl σ k v ps wr) (hW0 : W0.heap.size ≤ w.heap.size) (hlt : k < t.args.length) (u : T) (hu : t.args[k].app σ = u) (s5 : Value) (W5 X w6 : World) (hX : Below wr.heap.size wr W5) (hX5 : Below W5.heap.size W5 X) (hA : ArgsP (fun b => b < W0.heap.size ∨ wr.heap.size ≤ b) W5 s5 u.args) (v' : Value)
    (hown : w6.ownsRow (w.heap.size + 3) 24 3 v' (k + 1) (flatT ps ++ [.int .i64 u.v, .string u.fn, s5])) (hg : X.grownBy w6 v.ownBlock) (hat : v'.ownBlock = v.ownBlock ∨ v'.ownBlock = some X.heap.size) :
    PutI W0 w t sl σ (k + 1) v' (ps ++ [(u, s5)]) (w6.setCell ⟨w.heap.size + 1 + 1, 2, none⟩ v') := by
  have hsz := h.siz
  have hXs := hX.size
  have hX5s := hX5.size
  have hgs := hg.size
  have hvl : ∀ g, v.ownBlock = some g → w.heap.size + 3 ≤ g ∧ g < wr.heap.size := fun g e => h.row.lt g e
  have hv'l : ∀ g, v'.ownBlock = some g → w.heap.size + 3 ≤ g := fun g e => (hown.lt g e).1
  -- what lies in an older block, other than the row's and the box', is kept
  have kp : ∀ k, k < wr.heap.size → v.ownBlock ≠ some k → k ≠ w.heap.size + 1 + 1 → (w6.setCell ⟨w.heap.size + 1 + 1, 2, none⟩ v').heap[k]? = wr.heap[k]? := fun k hk hv hb => by
    rw [Below.heap_setCell _ _ _ k hb, hg.block k (by omega) (fun e => hv e.symm), hX5.block k (by omega), hX.block k hk]
  have kp5 : ∀ k, k < W5.heap.size → v.ownBlock ≠ some k → k ≠ w.heap.size + 1 + 1 → (w6.setCell ⟨w.heap.size + 1 + 1, 2, none⟩ v').heap[k]? = W5.heap[k]? := fun k hk hv hb => by
    rw [Below.heap_setCell _ _ _ k hb, hg.block k (by omega) (fun e => hv e.symm), hX5.block k hk]
  have hn : ∀ j, j < w.heap.size + 3 → v.ownBlock ≠ some j := fun j hj e => by have := hvl j e; omega
  have hv'b : ∀ b, b < X.heap.size → v.ownBlock ≠ some b → v'.ownBlock ≠ some b := fun b hb hne => by
    rcases hat with e | e
    · rw [e]; exact hne
    · rw [e]; intro e2; have := Option.some.inj e2; omega
  have hout : w6.heap[w.heap.size + 1 + 1]? = some (.cells #[.int .i64 0, .string t.fn, v] 24 (0, 0)) := by
    rw [hg.block _ (by omega) (fun e => hn _ (by omega) e.symm), hX5.block _ (by omega), hX.block _ (by omega)]
    exact h.out
  refine ⟨?_, fun p hp => ?_, ?_, ?_, ?_, ?_, ?_, ?_⟩
  · rw [List.map_append, h.args, List.take_succ_eq_append_getElem hlt, List.map_append]
    simp [hu]
  · rcases List.mem_append.1 hp with hp | hp
    · refine (h.ok p hp).keep (by simp; omega) (fun b ⟨hb, hne⟩ hlt => ⟨⟨hb, hv'b b (by omega) hne⟩, kp b hlt hne ?_⟩)
      rcases hb with hb | hb <;> omega
    · simp at hp
      subst hp
      refine hA.keep (by simp; omega) (fun b hb hlt => ?_)
      have hne : v.ownBlock ≠ some b := fun e => by have := hvl b e; rcases hb with hb | hb <;> omega
      refine ⟨⟨?_, hv'b b (by omega) hne⟩, kp5 b hlt hne ?_⟩
      · rcases hb with hb | hb
        · exact .inl hb
        · exact .inr (by omega)
      · rcases hb with hb | hb <;> omega
  · rw [flatT_snoc]
    exact row_keep hown (fun g hg => Below.heap_setCell _ _ _ g (by have := hv'l g hg; intro e; have : g = w.heap.size + 1 + 1 := e; omega))
  · have := heap_setCell_same w6 (w.heap.size + 1 + 1) 2 _ 24 v' hout
    simpa using this
  · rw [kp _ (by omega) (hn _ (by omega)) (by omega)]; exact h.tb
  · rw [kp _ (by omega) (hn _ (by omega)) (by omega)]; exact h.rb
  · exact h.bel.trans ⟨by rw [show (w6.setCell ⟨w.heap.size + 1 + 1, 2, none⟩ v').os = w6.os from rfl, hg.os, hX5.os, hX.os], by rw [show (w6.setCell ⟨w.heap.size + 1 + 1, 2, none⟩ v').tape = w6.tape from rfl, hg.tape, hX5.tape, hX.tape], by rw [show (w6.setCell ⟨w.heap.size + 1 + 1, 2, none⟩ v').output = w6.output from rfl, hg.output, hX5.output, hX.output], by simp; omega, fun j hj => kp j (by omega) (hn j (by omega)) (by omega)⟩
  · simp; omega

theorem put_start (W0 w : World) (t : T) (sl : Value) (σ : Int → T) : PutI W0 w t sl σ 0 (.slice none 0 0) []
    (((w.alloc (.cells #[.int .i64 t.v, .string t.fn, sl] 24)).alloc (.cells #[.int .i64 0, .string ⟨#[]⟩, .slice none 0 0] 24)).alloc (.cells #[.int .i64 0, .string t.fn, .slice none 0 0] 24)) := by
  have h1 := (MapKept.heap_alloc w (.cells #[.int .i64 t.v, .string t.fn, sl] 24)).1
  have h2 := (MapKept.heap_alloc (w.alloc (.cells #[.int .i64 t.v, .string t.fn, sl] 24)) (.cells #[.int .i64 0, .string ⟨#[]⟩, .slice none 0 0] 24)).1
  have h3 := (MapKept.heap_alloc ((w.alloc (.cells #[.int .i64 t.v, .string t.fn, sl] 24)).alloc (.cells #[.int .i64 0, .string ⟨#[]⟩, .slice none 0 0] 24)) (.cells #[.int .i64 0, .string t.fn, .slice none 0 0] 24)).1
  rw [World.size_alloc] at h2
  rw [World.size_alloc, World.size_alloc] at h3
  refine ⟨rfl, fun p hp => absurd hp (by simp), World.ownsRow_nil _ _ _ _, h3, ?_, ?_, (below_box2 w _ _).trans ((below_box _ _).mono (by simp; omega)), by simp⟩
  · rw [Below.heap_alloc _ _ _ (by simp; omega), Below.heap_alloc _ _ _ (by simp)]
    exact h1
  · rw [Below.heap_alloc _ _ _ (by simp)]
    exact h2

theorem put_last {W0 w : World} {t : T} {sl : Value} {σ : Int → T} {v : Value} {ps : List (T × Value)} {wr : World} (h : PutI W0 w t sl σ t.args.length v ps wr) (hW0 : W0.heap.size ≤ w.heap.size) : ArgsP (fun b => b < W0.heap.size ∨ w.heap.size ≤ b) (set3 wr (w.heap.size + 1) 0 (.int .i64 0) (.string t.fn) v) v (t.args.map (T.app σ)) ∧ Below w.heap.size w (set3 wr (w.heap.size + 1) 0 (.int .i64 0) (.string t.fn) v) := by
  have hvl : ∀ g, v.ownBlock = some g → w.heap.size + 3 ≤ g ∧ g < wr.heap.size := fun g e => h.row.lt g e
  refine ⟨argsP_of_row (row_keep h.row fun g hg => set3_other _ _ _ _ _ _ g (by have := hvl g hg; omega)) (by simp) (by rw [h.args, List.take_length]) (fun b hb => .inr (by omega)) (fun p hp => (h.ok p hp).keep (by rw [set3_size]; exact Nat.le_refl _) (fun b ⟨hb, _⟩ _ => ⟨?_, set3_other _ _ _ _ _ _ b ?_⟩)), set3_below h.bel _ 0 _ _ _ (Nat.le_succ _)⟩
  · rcases hb with hb | hb
    · exact .inl hb
    · exact .inr (by omega)
  · rcases hb with hb | hb <;> omega

/-- What the document's shift tells. -/
def ShP (by_ : Int) (t : T) (W0 w : World) (e : Ending) (W' : World) : Prop :=
  (fineT by_ t = true → ∃ a c, e = .returned (.tuple #[tval (t.app (shf by_)) (.slice a (t.app (shf by_)).args.length c), .bool true]) ∧ ArgsP (fun b => b < W0.heap.size ∨ w.heap.size ≤ b) W' (.slice a (t.app (shf by_)).args.length c) (t.app (shf by_)).args) ∧
  (fineT by_ t = false → e = .returned (.tuple #[tval zt (.slice none 0 0), .bool false])) ∧ Below w.heap.size w W'

def RShAt (W0 : World) (by_ : Int) (t : T) : Prop := ∀ (s : Value) (w : World), Below W0.heap.size W0 w → ArgsAt W0 s t.args → t.shape = true → Calls Try.prog 48 #[tval t s, .int .i64 by_] w (ShP by_ t W0 w)

theorem fineT_var {by_ : Int} {t : T} (hs : t.shape = true) (h0 : t.fn.size = 0) : fineT by_ t = fine by_ t.v := by
  rw [T.shape_eq, if_pos h0] at hs
  simp only [Bool.and_eq_true, decide_eq_true_eq] at hs
  unfold fineT
  rw [T.vs_eq, if_pos h0, List.length_eq_zero_iff.1 hs.2]
  simp

theorem fineT_fn {by_ : Int} {t : T} (h0 : t.fn.size ≠ 0) : fineT by_ t = t.args.all (fineT by_) := by
  unfold fineT
  rw [T.vs_eq, if_neg h0, List.nil_append]
  rw [Bool.eq_iff_iff, List.all_eq_true, List.all_eq_true]
  constructor
  · intro h a ha
    rw [List.all_eq_true]
    exact fun n hn => h n (List.mem_flatten.2 ⟨_, List.mem_map.2 ⟨a, ha, rfl⟩, hn⟩)
  · intro h n hn
    obtain ⟨vs, hvs, hn⟩ := List.mem_flatten.1 hn
    obtain ⟨a, ha, rfl⟩ := List.mem_map.1 hvs
    exact List.all_eq_true.1 (h a ha) n hn

theorem sh_two (w : World) (t : T) (s : Value) : ((w.alloc (tbox t s)).alloc (.cells #[.int .i64 0, .string ⟨#[]⟩, .slice none 0 0] 24)).heap[w.heap.size]? = some (.cells #[.int .i64 t.v, .string t.fn, s] 24 (0, 0)) ∧ ((w.alloc (tbox t s)).alloc (.cells #[.int .i64 0, .string ⟨#[]⟩, .slice none 0 0] 24)).heap[w.heap.size + 1]? = some (.cells #[.int .i64 0, .string ⟨#[]⟩, .slice none 0 0] 24 (0, 0)) := by
  have h1 := (MapKept.heap_alloc w (tbox t s)).1
  have h2 := (MapKept.heap_alloc (w.alloc (tbox t s)) (.cells #[.int .i64 0, .string ⟨#[]⟩, .slice none 0 0] 24)).1
  rw [World.size_alloc] at h2
  exact ⟨(Below.heap_alloc _ _ _ (by simp)).trans h1, h2⟩

set_option maxRecDepth 100000 in
set_option maxHeartbeats 1000000 in
theorem rsh_var (W0 : World) (by_ : Int) (hby : -9223372036854775808 ≤ by_ ∧ by_ ≤ 9223372036854775807) (t : T) (h0 : t.fn.size = 0) : RShAt W0 by_ t := by
  intro s w hw ha hsh
  have HF : Hid (fineT by_ t = fine by_ t.v) := fineT_var hsh h0
  have HAP : Hid (t.app (shf by_) = shf by_ t.v) := by show _ = _; rw [T.app_eq, if_pos h0]
  have hv : 0 ≤ t.v ∧ t.v < 1000000 := by
    rw [T.shape_eq, if_pos h0] at hsh
    simp only [Bool.and_eq_true, decide_eq_true_eq] at hsh
    exact hsh.1
  have hdd : t.fn.toList.isEmpty = true := by rw [ba_isEmpty]; exact decide_eq_true h0
  obtain ⟨sa, sc, rfl, _, _⟩ := ha.slice
  obtain ⟨q1, q2⟩ := sh_two w t (.slice sa t.args.length sc)
  obtain ⟨⟨b0, b1, b2⟩, y0, y1, y2⟩ := box_facts q1
  obtain ⟨⟨d0, d1, d2⟩, z0, z1, z2⟩ := box_facts q2
  have hb2 := below_box2 w (tbox t (.slice sa t.args.length sc)) (.cells #[.int .i64 0, .string ⟨#[]⟩, .slice none 0 0] 24)
  clear q1 q2 ha hsh h0
  obtain ⟨v, hvv⟩ : ∃ v, t.v = v := ⟨_, rfl⟩
  rw [hvv] at b0 hv HF HAP
  go_enter Try.func48, Try.ntmps48
  go_wp2
  · have hf : fine by_ v = true := by unfold fine; simp only [Bool.not_eq_true', Bool.or_eq_false_iff, decide_eq_false_iff_not]; omega
    have e1 : wrap64 (v + by_) = v + by_ := by unfold wrap64; omega
    refine bodyPost_ret (v := .tuple #[tval (shf by_ v) (.slice none 0 0), .bool true]) (by simp [results, Try.results48, go_sem, shf, var, T.v, T.fn, e1]) rfl ⟨fun _ => ⟨none, 0, by rw [HAP.out]; rfl, by rw [HAP.out]; exact ArgsP.nil _ _⟩, fun h => absurd (HF.out.symm.trans h) (by rw [hf]; decide), below_box2 w _ _⟩
  · have hf : fine by_ v = false := by unfold fine; simp only [Bool.not_eq_false', Bool.or_eq_true, decide_eq_true_eq]; (try unfold wrap64 at *); omega
    refine bodyPost_ret (v := .tuple #[tval zt (.slice none 0 0), .bool false]) (by simp [results, Try.results48, go_sem, zt, T.v, T.fn]) rfl ⟨fun h => absurd (HF.out.symm.trans h) (by rw [hf]; decide), fun _ => rfl, below_box2 w _ _⟩
  · have hf : fine by_ v = false := by unfold fine; simp only [Bool.not_eq_false', Bool.or_eq_true, decide_eq_true_eq]; (try unfold wrap64 at *); omega
    refine bodyPost_ret (v := .tuple #[tval zt (.slice none 0 0), .bool false]) (by simp [results, Try.results48, go_sem, zt, T.v, T.fn]) rfl ⟨fun h => absurd (HF.out.symm.trans h) (by rw [hf]; decide), fun _ => rfl, below_box2 w _ _⟩
  · have hf : fine by_ v = true := by unfold fine; simp only [Bool.not_eq_true', Bool.or_eq_false_iff, decide_eq_false_iff_not]; unfold wrap64 at *; omega
    have e1 : wrap64 (v + by_) = v + by_ := by unfold wrap64; omega
    refine bodyPost_ret (v := .tuple #[tval (shf by_ v) (.slice none 0 0), .bool true]) (by simp [results, Try.results48, go_sem, shf, var, T.v, T.fn, e1]) rfl ⟨fun _ => ⟨none, 0, by rw [HAP.out]; rfl, by rw [HAP.out]; exact ArgsP.nil _ _⟩, fun h => absurd (HF.out.symm.trans h) (by rw [hf]; decide), below_box2 w _ _⟩
  · have hf : fine by_ v = false := by unfold fine; simp only [Bool.not_eq_false', Bool.or_eq_true, decide_eq_true_eq]; (try unfold wrap64 at *); omega
    refine bodyPost_ret (v := .tuple #[tval zt (.slice none 0 0), .bool false]) (by simp [results, Try.results48, go_sem, zt, T.v, T.fn]) rfl ⟨fun h => absurd (HF.out.symm.trans h) (by rw [hf]; decide), fun _ => rfl, below_box2 w _ _⟩

/-- All arguments so far are fine. -/
def FineUp (by_ : Int) (t : T) (k : Nat) : Prop := (t.args.take k).all (fineT by_) = true

set_option maxRecDepth 100000 in
set_option maxHeartbeats 2000000 in
theorem rsh_fn (W0 : World) (by_ : Int) (t : T) (ih : ∀ a ∈ t.args, RShAt W0 by_ a) (h0 : t.fn.size ≠ 0) : RShAt W0 by_ t := by
  intro s w hw ha hsh
  have hap : t.app (shf by_) = .mk 0 t.fn (t.args.map (T.app (shf by_))) := by rw [T.app_eq, if_neg h0]
  have HFA : Hid (fineT by_ t = t.args.all (fineT by_)) := fineT_fn h0
  have HAP : Hid (t.app (shf by_) = .mk 0 t.fn (t.args.map (T.app (shf by_)))) := hap
  have hdd : t.fn.toList.isEmpty = false := by rw [ba_isEmpty]; exact decide_eq_false h0
  rw [T.shape_eq, if_neg h0] at hsh
  simp only [Bool.and_eq_true, decide_eq_true_eq, List.all_eq_true] at hsh
  obtain ⟨⟨hx16, h16⟩, hshs⟩ := hsh
  clear hx16
  obtain ⟨a, c, rfl, _, _⟩ := ha.slice
  obtain ⟨t0, t1, t2⟩ := tbox_cells w t (.slice a t.args.length c)
  have hbb := below_box (w.alloc (tbox t (.slice a t.args.length c))) (.cells #[.int .i64 0, .string ⟨#[]⟩, .slice none 0 0] 24)
  have t0' := kc hbb (by simp) t0
  have t1' := kc hbb (by simp) t1
  have HAA : Hid (ArgsAt W0 (.slice a t.args.length c) t.args) := ha
  have HIH : Hid (∀ a ∈ t.args, RShAt W0 by_ a) := ih
  clear t0 t1 t2 hbb hap h0 ih ha
  go_enter Try.func48, Try.ntmps48
  go_wp2
  go_loopw [7] (fun i wr => ∃ k : Nat, k ≤ t.args.length ∧ i = .int .i64 k ∧ Hid (FineUp by_ t k) ∧ Hid (∃ vv ps, PutI W0 w t (.slice a t.args.length c) (shf by_) k vv ps wr)) (fun i _ => t.args.length - (intOf i).toNat)
  case atStart =>
    refine ⟨0, Nat.zero_le _, rfl, rfl, .slice none 0 0, [], ?_⟩
    exact put_start W0 w t (.slice a t.args.length c) (shf by_)
  case round =>
    obtain ⟨k, hk, rfl, hfu, vv, ps, HI⟩ := hrel
    have HP : Hid (PutI W0 w t (.slice a t.args.length c) (shf by_) k vv ps wr) := HI
    obtain ⟨⟨b0, b1, b2⟩, y0, y1, y2⟩ := box_facts HI.tb
    obtain ⟨⟨o0, o1, o2⟩, x0, x1, x2⟩ := box_facts HI.out
    clear HI
    by_cases hlt : k < t.args.length
    · have hki : ((k : Int) < (t.args.length : Int)) := by omega
      obtain ⟨b, o, sq, e1, hbl, c0, c1, c2, hs⟩ := HAA.out.nth hlt
      cases e1
      have hW : Below W0.heap.size W0 wr := hw.trans (HP.out.bel.mono hw.size)
      have hcall := HIH.out t.args[k] (List.getElem_mem hlt) sq wr hW hs (hshs _ (List.getElem_mem hlt))
      obtain ⟨sa, sc, rfl, _, _⟩ := hs.slice
      have c0' := kc hW hbl c0
      have c1' := kc hW hbl c1
      have c2' := kc hW hbl c2
      have HTS : Hid (∀ q, fineT by_ t.args[k] = q → if q then FineUp by_ t (k + 1) else fineT by_ t = false) := by
        intro q hq
        cases q
        · show fineT by_ t = false
          rw [HFA.out, List.all_eq_false]
          exact ⟨_, List.getElem_mem hlt, by simp [hq]⟩
        · show FineUp by_ t (k + 1)
          unfold FineUp
          rw [List.take_succ_eq_append_getElem hlt, List.all_append, show (t.args.take k).all (fineT by_) = true from hfu]
          simp [hq]
      obtain ⟨u, hu⟩ : ∃ u, t.args[k].app (shf by_) = u := ⟨_, rfl⟩
      unfold ShP at hcall
      rw [hu] at hcall
      have HU : Hid (t.args[k].app (shf by_) = u) := hu
      cases hfq : fineT by_ t.args[k]
      · have HN : Hid (fineT by_ t = false) := HTS.out false hfq
        have hcall2 := hcall.mono (R' := fun e' W5 => e' = .returned (.tuple #[tval zt (.slice none 0 0), .bool false]) ∧ Hid (Below wr.heap.size wr W5)) (by
          rintro e' W5 ⟨_, h2, h3⟩
          exact ⟨h2 hfq, h3⟩)
        obtain ⟨q, hq⟩ : ∃ q, t.args[k] = q := ⟨_, rfl⟩
        simp only [hq] at hcall2 c0' c1' c2'
        have HRB : Hid (∀ X, Below wr.heap.size wr X → X.heap[w.heap.size + 1]? = some (.cells #[.int .i64 0, .string ⟨#[]⟩, .slice none 0 0] 24 (0, 0))) := fun X hX => (hX.block _ (Array.getElem?_eq_some_iff.1 HP.out.rb).1).trans HP.out.rb
        clear hcall hu HIH hq hs HTS hfq
        go_wp2_with (first
          | (go_at_call 48; refine hcall2.mono ?_; rintro _ W5 ⟨rfl, HB5⟩; have hb6 : ∀ o, Below wr.heap.size wr (W5.alloc o) := (fun o => HB5.out.trans ((below_box W5 o).mono HB5.out.size)); obtain ⟨⟨d0, d1, d2⟩, z0, z1, z2⟩ := box_facts (HRB.out _ (hb6 (tbox zt (.slice none 0 0)))); have HB6 : Hid (∀ o, Below wr.heap.size wr (W5.alloc o)) := hb6; clear hb6))
        obtain ⟨⟨g0, g1, g2⟩, _, _, _⟩ := box_facts (HRB.out _ (HB6.out (.cells #[.int .i64 0, .string ⟨#[]⟩, .slice none 0 0] 24)))
        refine bodyPost_ret (v := .tuple #[tval zt (.slice none 0 0), .bool false]) (by simp [results, Try.results48, go_sem, zt, T.v, T.fn, *]) rfl ⟨fun h => absurd (HN.out.symm.trans h) (by decide), fun _ => rfl, ?_⟩
        have hbX := HP.out.bel.trans ((HB6.out (tbox zt (.slice none 0 0))).mono HP.out.bel.size)
        exact set3_below hbX _ 0 _ _ _ (Nat.le_succ _)
      · have HN : Hid (FineUp by_ t (k + 1)) := HTS.out true hfq
        obtain ⟨i0, hi0, hz0, hz1, hz2⟩ := info_parts Try.info24
        have hcall2 := hcall.mono (R' := fun e' W5 => ∃ a5 c5, e' = .returned (.tuple #[.agg #[.int .i64 u.v, .string u.fn, .slice a5 u.args.length c5], .bool true]) ∧ (∀ o, (W5.alloc o).cell? ⟨w.heap.size + 1 + 1, 2, none⟩ = some vv) ∧ Hid (∀ o o', ((W5.alloc o).alloc o').ownsRow (w.heap.size + 3) 24 3 vv k (flatT ps)) ∧ Hid (∀ o o', ((W5.alloc o).alloc o').heap[w.heap.size + 1 + 1]? = some (.cells #[.int .i64 0, .string t.fn, vv] 24 (0, 0))) ∧ Hid (Below wr.heap.size wr W5 ∧ ArgsP (fun b => b < W0.heap.size ∨ wr.heap.size ≤ b) W5 (.slice a5 u.args.length c5) u.args)) (by
          rintro e' W5 ⟨h1, _, hb5⟩
          obtain ⟨a5, c5, he5, hA5⟩ := h1 hfq
          have hb6 : ∀ o, Below wr.heap.size wr (W5.alloc o) := fun o => hb5.trans ((below_box W5 o).mono hb5.size)
          have hb7 : ∀ o o', Below wr.heap.size wr ((W5.alloc o).alloc o') := fun o o' => (hb6 o).trans ((below_box _ o').mono (hb6 o).size)
          have hol := (Array.getElem?_eq_some_iff.1 HP.out.out).1
          exact ⟨a5, c5, he5, fun o => kc (hb6 o) hol o2, fun o o' => row_keep HP.out.row (fun g hg => (hb7 o o').block g (HP.out.row.lt g hg).2), fun o o' => ((hb7 o o').block _ hol).trans HP.out.out, hb5, hA5⟩)
        obtain ⟨q, hq⟩ : ∃ q, t.args[k] = q := ⟨_, rfl⟩
        simp only [hq] at hcall2 c0' c1' c2'
        have HV : Hid (vv.ownBlock ≠ some (w.heap.size + 1 + 1) ∧ w.heap.size + 3 ≤ wr.heap.size) := ⟨fun e => by have := (HP.out.row.lt _ e).1; omega, HP.out.siz⟩
        clear hcall hu HIH hq hs HTS hfq
        go_wp2_with (first
          | (at_builtin; refine wpList_append_own_at _ rfl _ _ 22 rfl (w.heap.size + 3) 24 i0 _ 3 48 Try.underlying22 hi0 hz0 hz1 hz2 rfl (by decide) vv k (flatT ps) rfl (HW5.out _ _) ⟨W5.heap.size + 1, 0, none⟩ 1 1 [.int .i64 u.v, .string u.fn, .slice a5 u.args.length c5] rfl rfl (fun j x hj => by { rw [Addr.add_mid, Nat.zero_add]; have hh := (MapKept.heap_alloc (W5.alloc (tbox u (.slice a5 u.args.length c5))) (.cells #[.int .i64 u.v, .string u.fn, .slice a5 u.args.length c5] 24)).1; rw [World.size_alloc] at hh; rw [cell_of_row _ _ _ _ 24 (0, 0) hh]; simpa using hj }) (by { intro x hx; simp only [List.mem_cons, List.not_mem_nil, or_false] at hx; rcases hx with rfl | rfl | rfl <;> rfl }) (by unfold maxLen; omega) (by omega) (by { have := HB5.out.1.size; have := HV.out.2; simp; omega }) ?_; intro v' w6 hrow6 hg6 _ hb6; obtain ⟨a6, c6, rfl⟩ := row_slice hrow6; have hb66 := (hg6.block (w.heap.size + 1 + 1) (Array.getElem?_eq_some_iff.1 (HX5.out _ _)).1 (fun h => HV.out.1 h.symm)).trans (HX5.out _ _); have hc6 : w6.cell? ⟨w.heap.size + 1 + 1, 2, none⟩ = some vv := by { rw [cell_of_row _ _ _ #[Value.int .i64 0, .string t.fn, vv] 24 (0, 0) hb66]; rfl }; have hf6 : w6.frozen? ⟨w.heap.size + 1 + 1, 2, none⟩ = false := by { simp [World.frozen?, hb66] })
          | (go_at_call 48; refine hcall2.mono ?_; rintro _ W5 ⟨a5, c5, rfl, hcell5', HW5, HX5, HB5⟩))
        have HE : Hid (PutI W0 w t (.slice (some ⟨b, o, none⟩) t.args.length c) (shf by_) (k + 1) (.slice a6 (k + 1) c6) (ps ++ [(u, .slice a5 u.args.length c5)]) (w6.setCell ⟨w.heap.size + 1 + 1, 2, none⟩ (.slice a6 (k + 1) c6))) := put_end HP.out hw.size hlt u HU.out _ W5 _ w6 HB5.out.1 ((below_box W5 _).trans ((below_box (W5.alloc _) _).mono (by simp))) HB5.out.2 _ hrow6 hg6 hb6
        go_roundw
        case rel => exact ⟨k + 1, by omega, by go_num, HN, _, _, HE.out⟩
        case measure => simp [intOf]; omega
    · have hke : k = t.args.length := by omega
      subst hke
      obtain ⟨av, cv, rfl⟩ := row_slice HP.out.row
      obtain ⟨⟨d0, d1, d2⟩, z0, z1, z2⟩ := box_facts HP.out.rb
      have HF : Hid (fineT by_ t = true) := by
        show fineT by_ t = true
        rw [HFA.out]
        have : (t.args.take t.args.length).all (fineT by_) = true := hfu
        rwa [List.take_length] at this
      have HA : Hid (ArgsP (fun b => b < W0.heap.size ∨ w.heap.size ≤ b) (set3 wr (w.heap.size + 1) 0 (.int .i64 0) (.string t.fn) (.slice av t.args.length cv)) (.slice av t.args.length cv) (t.args.map (T.app (shf by_))) ∧ Below w.heap.size w (set3 wr (w.heap.size + 1) 0 (.int .i64 0) (.string t.fn) (.slice av t.args.length cv))) := put_last HP.out hw.size
      have HL : Hid ((t.args.map (T.app (shf by_))).length = t.args.length) := by simp [Hid]
      clear HIH
      go_wp2
      refine bodyPost_ret (v := .tuple #[tval (.mk 0 t.fn (t.args.map (T.app (shf by_)))) (.slice av t.args.length cv), .bool true]) (by simp [results, Try.results48, go_sem, *, T.v, T.fn]) rfl ⟨fun _ => ⟨av, cv, ?_, ?_⟩, fun h => absurd (HF.out.symm.trans h) (by decide), HA.out.2⟩
      · rw [HAP.out]
        show _ = Ending.returned (.tuple #[tval _ (.slice av (t.args.map (T.app (shf by_))).length cv), .bool true])
        rw [HL.out]
      · rw [HAP.out]
        show ArgsP _ _ (.slice av (t.args.map (T.app (shf by_))).length cv) (t.args.map (T.app (shf by_)))
        rw [HL.out]
        exact HA.out.1

theorem rsh_any (W0 : World) (by_ : Int) (hby : -9223372036854775808 ≤ by_ ∧ by_ ≤ 9223372036854775807) (t : T) : RShAt W0 by_ t := by
  induction t using T.ind with
  | _ t ih =>
    by_cases h0 : t.fn.size = 0
    · exact rsh_var W0 by_ hby t h0
    · exact rsh_fn W0 by_ t ih h0

/-- What the document's Shift tells of a right term. -/
def StP (by_ : Int) (t : T) (W0 w : World) (e : Ending) (W' : World) : Prop :=
  (fineT by_ t = true → ∃ a c, e = .returned (.tuple #[tval (t.app (shf by_)) (.slice a (t.app (shf by_)).args.length c), .int .i64 0]) ∧ ArgsP (fun b => b < W0.heap.size ∨ w.heap.size ≤ b) W' (.slice a (t.app (shf by_)).args.length c) (t.app (shf by_)).args) ∧
  (fineT by_ t = false → e = .returned (.tuple #[tval zt (.slice none 0 0), .int .i64 1])) ∧ Below w.heap.size w W'

set_option maxRecDepth 100000 in
set_option maxHeartbeats 2000000 in
theorem rshift_any (W0 : World) (by_ : Int) (hby : -9223372036854775808 ≤ by_ ∧ by_ ≤ 9223372036854775807) (t : T) (ht : t.rightW = 0) (hsh : t.shape = true) (s : Value) (w : World) (hw : Below W0.heap.size W0 w) (ha : ArgsAt W0 s t.args) :
    Calls Try.prog 29 #[tval t s, .int .i64 by_] w (StP by_ t W0 w) := by
  obtain ⟨sa, sc, rfl, _, _⟩ := ha.slice
  obtain ⟨q1, q2⟩ := sh_two w t (.slice sa t.args.length sc)
  have hb2 := below_box2 w (tbox t (.slice sa t.args.length sc)) (.cells #[.int .i64 0, .string ⟨#[]⟩, .slice none 0 0] 24)
  obtain ⟨W2, hW2⟩ : ∃ W2, (w.alloc (tbox t (.slice sa t.args.length sc))).alloc (.cells #[.int .i64 0, .string ⟨#[]⟩, .slice none 0 0] 24) = W2 := ⟨_, rfl⟩
  have hsz : W2.heap.size = w.heap.size + 1 + 1 := by rw [← hW2]; simp
  rw [hW2] at q1 q2 hb2
  have hr := rright_any t (.slice sa t.args.length sc) W2 (ArgsAt.keep (hw.trans (hb2.mono hw.size)) (Nat.le_refl _) ha)
  rw [ht] at hr
  have HQ : Hid (∀ X, Below W2.heap.size W2 X → X.heap[w.heap.size]? = some (.cells #[.int .i64 t.v, .string t.fn, .slice sa t.args.length sc] 24 (0, 0)) ∧ X.heap[w.heap.size + 1]? = some (.cells #[.int .i64 0, .string ⟨#[]⟩, .slice none 0 0] 24 (0, 0))) := fun X hX => ⟨(hX.block _ (by omega)).trans q1, (hX.block _ (by omega)).trans q2⟩
  obtain ⟨⟨b0, b1, b2⟩, y0, y1, y2⟩ := box_facts q1
  have HB2 : Hid (Below w.heap.size w W2) := hb2
  have HC : Hid (∀ X, Below W2.heap.size W2 X → Calls Try.prog 48 #[tval t (.slice sa t.args.length sc), .int .i64 by_] X (ShP by_ t W0 X)) := fun X hX => rsh_any W0 by_ hby t _ X (hw.trans ((hb2.trans (hX.mono hb2.size)).mono hw.size)) ha hsh
  clear q1 q2 hb2
  go_enter Try.func29, Try.ntmps29
  go_wp2_with fail
  first | rw [hW2] | skip
  refine hr.mono ?_
  rintro e W3 ⟨rfl, hb3⟩
  clear b0 b1 b2 y0 y1 y2
  obtain ⟨r1, r2⟩ := HQ.out W3 hb3
  obtain ⟨⟨b0, b1, b2⟩, y0, y1, y2⟩ := box_facts r1
  have hc := HC.out W3 hb3
  have HB3 : Hid (Below W2.heap.size W2 W3) := hb3
  clear r1 r2 hr
  unfold ShP at hc
  cases hf : fineT by_ t
  · have HF : Hid (fineT by_ t = false) := hf
    have hc2 := hc.mono (R' := fun e' W5 => e' = .returned (.tuple #[tval zt (.slice none 0 0), .bool false]) ∧ Hid (Below W3.heap.size W3 W5)) (by
      rintro e' W5 ⟨_, h2, h3⟩
      exact ⟨h2 hf, h3⟩)
    clear hc hf
    go_wp2_with (first
      | (go_at_call 48; refine hc2.mono ?_; rintro _ W5 ⟨rfl, HB5⟩; have hb6 : ∀ o, Below W2.heap.size W2 (W5.alloc o) := (fun o => HB3.out.trans ((HB5.out.trans ((below_box W5 o).mono HB5.out.size)).mono HB3.out.size)); obtain ⟨_, r2⟩ := HQ.out _ (hb6 (tbox zt (.slice none 0 0))); obtain ⟨⟨d0, d1, d2⟩, z0, z1, z2⟩ := box_facts r2; have HB6 : Hid (∀ o, Below W2.heap.size W2 (W5.alloc o)) := hb6; clear hb6 r2))
    obtain ⟨_, r2⟩ := HQ.out _ (HB6.out (.cells #[.int .i64 0, .string ⟨#[]⟩, .slice none 0 0] 24))
    obtain ⟨⟨g0, g1, g2⟩, _, _, _⟩ := box_facts r2
    clear r2
    refine bodyPost_ret (v := .tuple #[tval zt (.slice none 0 0), .int .i64 1]) (by simp [results, Try.results29, go_sem, zt, T.v, T.fn, *]) rfl ⟨fun h => absurd (HF.out.symm.trans h) (by decide), fun _ => rfl, ?_⟩
    have hbX := HB2.out.trans ((HB6.out (tbox zt (.slice none 0 0))).mono HB2.out.size)
    exact set3_below hbX _ 0 _ _ _ (Nat.le_succ _)
  · have HF : Hid (fineT by_ t = true) := hf
    obtain ⟨u, hu⟩ : ∃ u, t.app (shf by_) = u := ⟨_, rfl⟩
    rw [hu] at hc
    have HU : Hid (t.app (shf by_) = u) := hu
    have hc2 := hc.mono (R' := fun e' W5 => ∃ a c, e' = .returned (.tuple #[tval u (.slice a u.args.length c), .bool true]) ∧ Hid (ArgsP (fun b => b < W0.heap.size ∨ W3.heap.size ≤ b) W5 (.slice a u.args.length c) u.args) ∧ Hid (Below W3.heap.size W3 W5)) (by
      rintro e' W5 ⟨h1, _, h3⟩
      obtain ⟨a, c, he, hA⟩ := h1 hf
      exact ⟨a, c, he, hA, h3⟩)
    clear hc hf hu
    go_wp2_with (first
      | (go_at_call 48; refine hc2.mono ?_; rintro _ W5 ⟨a5, c5, rfl, HA5, HB5⟩; have hb6 : ∀ o, Below W2.heap.size W2 (W5.alloc o) := (fun o => HB3.out.trans ((HB5.out.trans ((below_box W5 o).mono HB5.out.size)).mono HB3.out.size)); obtain ⟨_, r2⟩ := HQ.out _ (hb6 (tbox u (.slice a5 u.args.length c5))); obtain ⟨⟨d0, d1, d2⟩, z0, z1, z2⟩ := box_facts r2; have HB6 : Hid (∀ o, Below W2.heap.size W2 (W5.alloc o)) := hb6; clear hb6 r2))
    refine bodyPost_ret (v := .tuple #[tval u (.slice a5 u.args.length c5), .int .i64 0]) (by simp [results, Try.results29, go_sem, *]) rfl ⟨fun _ => ⟨a5, c5, by rw [HU.out], ?_⟩, fun h => absurd (HF.out.symm.trans h) (by decide), ?_⟩
    · rw [HU.out]
      refine HA5.out.keep (by simp) (fun b hb hlt => ⟨?_, ?_⟩)
      · rcases hb with hb | hb
        · exact .inl hb
        · exact .inr (by have := HB3.out.size; omega)
      · have hne : b ≠ w.heap.size + 1 := by
          have h1 := hw.size
          have h2 := HB3.out.size
          rcases hb with hb | hb <;> omega
        rw [set3_other _ _ _ _ _ _ b hne]
        exact Below.heap_alloc _ _ _ hlt
    · have hbX := HB2.out.trans ((HB6.out (tbox u (.slice a5 u.args.length c5))).mono HB2.out.size)
      exact set3_below hbX _ 0 _ _ _ (Nat.le_succ _)

end Go.Proofs.Ytiklbkkimmgbcaa
