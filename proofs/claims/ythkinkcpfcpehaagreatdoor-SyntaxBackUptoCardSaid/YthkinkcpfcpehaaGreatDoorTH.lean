import Derived.Test.YthkinkcpfcpehaaGreatDoorRows
import Derived.WalkKit
import Derived.WalkSpells
import Derived.WalkLawsBesides
import Derived.ProofKit
import Derived.OpenShut
import Derived.Deep.RegionHeld3
import Derived.RangeFuncNested
import Derived.RangeFuncBound
import Derived.RangeFuncCalls
import Derived.RangeFuncLeaves
import Derived.Shelf.Abstract
import Derived.Shelf.RegionOpen
import Derived.OwnWalkIn
import Derived.TacticsInMore
import Derived.LoopNIn
import Derived.LoopIn
import Derived.Maps.OwnIn
namespace Go.Proofs.YthkinkcpfcpehaaGreatDoor
set_option maxRecDepth 100000
section
open Go.RowKit
theorem ret_bool {a b : Bool} (h : a = b) : Ending.returned (.bool a) = .returned (.bool b) := by rw [h]
theorem ret_i64 {a b : Int} (h : a = b) : Ending.returned (.int .i64 a) = .returned (.int .i64 b) := by rw [h]
/-- A term: a number, a name, its arguments. -/
inductive T where
  | mk (v : Int) (fn : ByteArray) (args : List T)
def T.v : T → Int
  | .mk v _ _ => v
def T.fn : T → ByteArray
  | .mk _ fn _ => fn
def T.args : T → List T
  | .mk _ _ args => args
theorem T.eta (t : T) : t = .mk t.v t.fn t.args := by cases t; rfl
theorem T.ind {P : T → Prop} (h : ∀ t, (∀ a ∈ t.args, P a) → P t) (t : T) : P t := by
  refine T.rec (motive_1 := P) (motive_2 := fun l => ∀ a ∈ l, P a) ?_ ?_ ?_ t
  · intro v fn args ih
    exact h _ ih
  · intro a ha
    cases ha
  · intro x r hx hr a ha
    rcases List.mem_cons.1 ha with rfl | ha
    · exact hx
    · exact hr a ha
/-- A slice of terms, as it lies in memory. -/
inductive ArgsAt (W : World) : Value → List T → Prop
  | mk (a : Option Addr) (c : Nat) (l : List T) (s : Nat → Value) (hc : l.length ≤ c) (hm : c ≤ 9223372036854775807)
      (at0 : 0 < l.length → ∃ b o, b < W.heap.size ∧ a = some ⟨b, o, none⟩ ∧ ∀ i (h : i < l.length), W.cell? ⟨b, o + i * 3, none⟩ = some (.int .i64 l[i].v) ∧ W.cell? ⟨b, o + i * 3 + 1, none⟩ = some (.string l[i].fn) ∧ W.cell? ⟨b, o + i * 3 + 2, none⟩ = some (s i))
      (sub : ∀ i (h : i < l.length), ArgsAt W (s i) l[i].args) : ArgsAt W (.slice a l.length c) l
/-- A term's value. -/
abbrev tval (t : T) (sl : Value) : Value := .agg #[.int .i64 t.v, .string t.fn, sl]
theorem ArgsAt.keep {W W' : World} {n : Nat} {sl : Value} {l : List T} (hb : Below n W W') (hn : W.heap.size ≤ n) (h : ArgsAt W sl l) : ArgsAt W' sl l := by
  induction h with
  | mk a c l s hc hm at0 sub ih =>
    refine .mk a c l s hc hm (fun h0 => ?_) ih
    obtain ⟨b, o, hlt, rfl, hcell⟩ := at0 h0
    refine ⟨b, o, Nat.lt_of_lt_of_le hlt hb.size, rfl, fun i hi => ?_⟩
    obtain ⟨h1, h2, h3⟩ := hcell i hi
    refine ⟨(hb.cell (p := ⟨b, _, none⟩) ?_).trans h1, (hb.cell (p := ⟨b, _, none⟩) ?_).trans h2, (hb.cell (p := ⟨b, _, none⟩) ?_).trans h3⟩ <;> exact Nat.lt_of_lt_of_le hlt hn
theorem ArgsAt.slice {W : World} {sl : Value} {l : List T} (h : ArgsAt W sl l) : ∃ a c, sl = .slice a l.length c ∧ l.length ≤ c ∧ c ≤ 9223372036854775807 := by
  cases h with
  | mk a c _ s hc hm at0 sub => exact ⟨a, c, rfl, hc, hm⟩
/-- The i-th argument. -/
theorem ArgsAt.nth {W : World} {a : Option Addr} {c n : Nat} {l : List T} (h : ArgsAt W (.slice a n c) l) {i : Nat} (hi : i < l.length) :
    ∃ b o s, a = some ⟨b, o, none⟩ ∧ b < W.heap.size ∧ W.cell? ⟨b, o + i * 3, none⟩ = some (.int .i64 l[i].v) ∧ W.cell? ⟨b, o + i * 3 + 1, none⟩ = some (.string l[i].fn) ∧ W.cell? ⟨b, o + i * 3 + 2, none⟩ = some s ∧ ArgsAt W s l[i].args := by
  cases h with
  | mk a c _ s hc hm at0 sub =>
    obtain ⟨b, o, hlt, rfl, hcell⟩ := at0 (by omega)
    obtain ⟨h1, h2, h3⟩ := hcell i hi
    exact ⟨b, o, s i, rfl, hlt, h1, h2, h3, sub i hi⟩
/-- How many parts. -/
def T.size : T → Int
  | .mk _ _ args => 1 + sizes args
where sizes : List T → Int
  | [] => 0
  | a :: r => T.size a + sizes r
theorem T.size_eq (t : T) : t.size = 1 + (t.args.map T.size).sum := by
  have h : ∀ l : List T, T.size.sizes l = (l.map T.size).sum := by
    intro l
    induction l with
    | nil => rfl
    | cons a r ih => simp [T.size.sizes, ih]
  cases t with
  | mk v fn args => simp [T.size, T.args, h]
theorem wrap64_add (a b : Int) : wrap64 (wrap64 a + wrap64 b) = wrap64 (a + b) := by
  simp only [wrap64]; omega
/-- The box of a term. -/
abbrev tbox (t : T) (sl : Value) : Obj := .cells #[.int .i64 t.v, .string t.fn, sl] 24
theorem tbox_cells (w : World) (t : T) (sl : Value) : (w.alloc (tbox t sl)).cell? ⟨w.heap.size, 0, none⟩ = some (.int .i64 t.v) ∧ (w.alloc (tbox t sl)).cell? ⟨w.heap.size, 1, none⟩ = some (.string t.fn) ∧ (w.alloc (tbox t sl)).cell? ⟨w.heap.size, 2, none⟩ = some sl := by
  have h : (w.alloc (tbox t sl)).heap[w.heap.size]? = some (.cells [Value.int .i64 t.v, .string t.fn, sl].toArray 24 (0, 0)) := (MapKept.heap_alloc w (tbox t sl)).1
  refine ⟨?_, ?_, ?_⟩ <;> rw [cell_of_row _ _ _ _ 24 (0, 0) h] <;> rfl
theorem below_box (w : World) (o : Obj) : Below w.heap.size w (w.alloc o) := (Below.refl _ _).alloc (Nat.le_refl _) _
end
section
open Go.RowKit
theorem ba_empty {s : ByteArray} : s.size = 0 ↔ s = ⟨#[]⟩ := by
  constructor
  · intro h
    cases s with
    | mk d =>
      have : d.size = 0 := h
      rw [Array.size_eq_zero_iff] at this
      rw [this]
  · rintro rfl
    rfl
end
section
open Go.RowKit
open Classical in
/-- Are both the same? -/
noncomputable def same (x y : T) : Bool := decide (x = y)
theorem same_iff {x y : T} : same x y = true ↔ x = y := by simp [same]
theorem same_false {x y : T} : same x y = false ↔ x ≠ y := by simp [same]
theorem same_ext {x y : T} (h1 : x.v = y.v) (h2 : x.fn = y.fn) (h3 : x.args = y.args) : x = y := by
  rw [x.eta, y.eta, h1, h2, h3]
/-- The boxes of two terms. -/
abbrev tbox2 (w : World) (x : T) (sx : Value) (y : T) (sy : Value) : World := (w.alloc (tbox x sx)).alloc (tbox y sy)
theorem kc {A B : World} {n : Nat} (h : Below n A B) {b o : Nat} {v : Value} (hb : b < n) (c : A.cell? ⟨b, o, none⟩ = some v) : B.cell? ⟨b, o, none⟩ = some v := (h.cell (p := ⟨b, o, none⟩) hb).trans c
theorem below_box2 (w : World) (o1 o2 : Obj) : Below w.heap.size w ((w.alloc o1).alloc o2) := ((Below.refl _ _).alloc (Nat.le_refl _) _).alloc (by simp) _
theorem ba_toList_inj {s t : ByteArray} : s.toList = t.toList ↔ s = t := by
  rw [ByteArray.toList_eq, ByteArray.toList_eq]
  constructor
  · intro h
    cases s with
    | mk d => cases t with
      | mk e => exact congrArg ByteArray.mk (Array.toList_inj.1 h)
  · rintro rfl
    rfl
theorem list_take_eq {l m : List T} {k : Nat} (hl : l.length = m.length) (hk : k < l.length) (h : l.take k = m.take k) (e : l[k] = m[k]) : l.take (k + 1) = m.take (k + 1) := by
  rw [List.take_succ_eq_append_getElem hk, List.take_succ_eq_append_getElem (by omega), h, e]
end
section
open Go.RowKit Go.Shelf
/-- Behind a round: what lay below n, and the blocks E, lie as they lay. -/
structure Kept (n : Nat) (E : List Nat) (W W' : World) : Prop where
  below : Below n W W'
  mine : ∀ r ∈ E, W'.heap[r]? = W.heap[r]?
/-- It bears what an iterator does that owns the blocks E: it turns one of them, and lays new ones, which may become its own. -/
def Abide {γ : Type} (I : List Nat → γ → World → Prop) : Prop :=
  ∀ E E' s W W' row, I E s W → W.grownBy W' row → (∀ r, row = some r → r ∈ E) → (∀ r ∈ E', r ∈ E ∨ (W.heap.size ≤ r ∧ r < W'.heap.size)) → I E' s W'
theorem Abide.put {γ : Type} {I : List Nat → γ → World → Prop} (h : Abide I) {E : List Nat} {s : γ} {W : World} {l : Nat} (o : Obj) (hs : I E s W) (hl : l ∈ E) : I E s (W.putObj l o) :=
  h E E s W _ (some l) hs (grownBy_putObj' W l o) (fun r e => by cases e; exact hl) (fun _ hr => .inl hr)
/-- How a round's body may end. -/
def endE {γ : Type} (n : Nat) (E : List Nat) (I Ix : List Nat → γ → World → Prop) (s : γ) (W : World) : Exit → Act → World → Prop
  | .normal, _, W' => Kept n E W W' ∧ I E s W'
  | .ret, _, W' => Kept n E W W' ∧ Ix E s W'
  | _, _, _ => False
abbrev Part := List Int × T
/-- A place, as the iterator hands it out: its numbers lie in a block of the iterator's. -/
def PlaceV (n : Nat) (E : List Nat) (W : World) (pv : Value) (pl : List Int) : Prop :=
  W.ownsRow n 3 1 pv pl.length (pl.map fun x => Value.int .i64 x) ∧ ∀ g, pv.ownBlock = some g → g ∈ E
/-- What a call of yield does for the iterator. -/
def Yields (n l : Nat) (w0 : World) (all : List Part) (J Jx : List Nat → List Part → World → Prop) : Prop :=
  ∀ E pre pl p pv sl W, J E pre W → Below w0.heap.size w0 W → PlaceV n E W pv pl → ArgsAt w0 sl p.args → (∃ rest, pre ++ (pl, p) :: rest = all) →
    ∀ m, YieldAt Fence.wide m Tryz.prog l #[pv, tval p sl] W fun e W' => (e = .returned (.bool true) ∧ J E (pre ++ [(pl, p)]) W' ∧ Kept w0.heap.size E W W') ∨ (e = .returned (.bool false) ∧ Jx E (pre ++ [(pl, p)]) W')
/-- What an iterator over the parts does, called in W. -/
def Iter (n gf : Nat) (lb : Array Value) (w0 : World) (all : List Part) (W : World) : Prop :=
  ∀ (m l : Nat) (J Jx : List Nat → List Part → World → Prop), Abide J → Yields n l w0 all J Jx → J [] [] W →
    CallsIn Fence.wide m Tryz.prog gf (#[.func (.yield l) #[] #[]] ++ lb) W fun e W' => (∃ v, e = .returned v) ∧ ((∃ E, J E all W') ∨ (∃ E pre, Jx E pre W'))
theorem range_ownA {ps : Array Tmp} {assign body : Code} {Q : Exit → Act → World → Prop} {a : Act} {w : World} {g : Operand} {n gf : Nat} {lb : Array Value} {w0 : World} {all : List Part} (m : Nat)
    (hg : a.eval g = .func (.func gf) #[] lb) (eg : ∀ args w, (callFunc gf args).run Tryz.prog w = .ok (.enter gf args) w) (hps : ps.size = 2)
    (hseq : ∀ W, Below w.heap.size w W → Iter n gf lb w0 all W)
    (I Ix : List Nat → List Part → World → Prop) (hI : Abide I) (hIx : Abide Ix) (h0 : I [] [] w) (hw0 : w0.heap.size ≤ w.heap.size) (hlow : ∀ E pre W, I E pre W → ∀ r ∈ E, r < W.heap.size)
    (Ax : T → Value → Value → Act → World → Prop) (hAx : ∀ p x y a' W l r o, Ax p x y a' W → W.heap[l]? = some (.loop r) → Ax p x y a' (W.putObj l o))
    (hassign : ∀ (l : Nat) (p : T) (pv sl : Value) (W : World) (K : Act → World → Prop), (∃ a n c, pv = .slice a n c) → (∃ a n c, sl = .slice a n c) → (∀ a' W', Below W.heap.size W W' → Ax p pv sl a' W' → K a' W') →
      assign.wpIn (Fence.wide.inRound l) (m - 1) Tryz.prog (Exit.then K (fun _ _ _ => False)) { tmps := (ps.zip #[pv, tval p sl]).foldl (fun t (p, v) => t.setIfInBounds p v) a.tmps, defers := [] } W)
    (hbody : ∀ (l : Nat) (E : List Nat) (pre : List Part) (pl : List Int) (p : T) (pv sl : Value) (a' : Act) (W : World), I E pre W → l ∈ E → Below w0.heap.size w0 W → PlaceV n E W pv pl → ArgsAt w0 sl p.args → (∃ rest, pre ++ (pl, p) :: rest = all) → Ax p pv sl a' W →
      body.wpIn (Fence.wide.inRound l) (m - 1) Tryz.prog (endE w0.heap.size E I Ix (pre ++ [(pl, p)]) W) a' W)
    (hdone : ∀ (D : Nat) (E : List Nat) (W : World), w.heap.size ≤ D → I E all W → D ∈ E → W.heap[D]? = some (.deferred (some [])) → Q .normal { a with defers := { target := .collected D, args := #[] } :: a.defers } W)
    (hstop : ∀ (D : Nat) (E : List Nat) (pre : List Part) (W : World), w.heap.size ≤ D → Ix E pre W → D ∈ E → W.heap[D]? = some (.deferred (some [])) → Code.ret.wpIn Fence.wide m Tryz.prog Q { a with defers := { target := .collected D, args := #[] } :: a.defers } W) :
    (Code.rangeFunc g ps assign body).wpIn Fence.wide m Tryz.prog Q a w := by
  refine wpIn_rangeFunc fun fn hfn => ?_
  let N := w.heap.size
  let lp : LoopState → Option Code → Obj := fun st pe => .loop { state := st, pending := pe, fn := fn, tmps := a.tmps, params := ps, assign := assign, body := body, defers := N }
  let W1 : World := (w.alloc (.deferred (some []))).alloc (lp .ready none)
  have hN : w.heap.size = N := rfl
  have hsz1 : W1.heap.size = N + 2 := by simp [W1, N]
  have hb1 : Below w.heap.size w W1 := below_box2 w _ _
  have hl1 : W1.heap[N + 1]? = some (lp .ready none) := by
    have := (MapKept.heap_alloc (w.alloc (.deferred (some []))) (lp .ready none)).1
    rwa [World.size_alloc] at this
  have hd1 : W1.heap[N]? = some (.deferred (some [])) := (Below.heap_alloc _ _ _ (by simp [N])).trans (MapKept.heap_alloc w _).1
  have hI1 : I [N, N + 1] [] W1 := by
    have g1 := World.grownBy_alloc w (.deferred (some [])) none
    have g2 := World.grownBy_alloc (w.alloc (.deferred (some []))) (lp .ready none) none
    have s1 : I [N] [] (w.alloc (.deferred (some []))) := hI _ _ _ _ _ _ h0 g1 (fun _ e => by cases e) (fun r hr => .inr (by simp at hr ⊢; omega))
    exact hI _ _ _ _ _ _ s1 g2 (fun _ e => by cases e) (fun r hr => by simp at hr ⊢; omega)
  refine ⟨N + 1, [{ target := .collected N, args := #[] }], W1, { target := .fn (.func gf) lb, args := #[.func (.yield (N + 1)) #[] #[]] }, W1, gf, #[.func (.yield (N + 1)) #[] #[]] ++ lb, W1, ?_, ?_, ?_, ?_, ?_, ?_⟩
  · exact run_enterLoop_outer _ _ _ _ _
  · simp only [resolve, hg]
    simp [go_sem]
  · intro f' _
    trivial
  · simp [invoke, go_sem, eg]
  · intro h
    cases h
  · let J : List Nat → List Part → World → Prop := fun E pre W => I (N :: (N + 1) :: E) pre W ∧ N ∉ E ∧ N + 1 ∉ E ∧ W.heap[N + 1]? = some (lp .ready none) ∧ W.heap[N]? = some (.deferred (some []))
    let Jx : List Nat → List Part → World → Prop := fun E pre W => Ix (N :: (N + 1) :: E) pre W ∧ W.heap[N + 1]? = some (lp .done (some .ret)) ∧ W.heap[N]? = some (.deferred (some []))
    have hJ : Abide J := by
      rintro E E' s W W' row ⟨hi, n1, n2, hl, hd⟩ hg' hr hE
      have lt : N + 1 < W.heap.size := (Array.getElem?_eq_some_iff.1 hl).1
      have m1 : N ∉ E' := fun h => by
        rcases hE _ h with h | h
        · exact n1 h
        · omega
      have m2 : N + 1 ∉ E' := fun h => by
        rcases hE _ h with h | h
        · exact n2 h
        · omega
      refine ⟨hI _ _ _ _ _ _ hi hg' (fun r e => by simp [hr r e]) (fun r h => ?_), m1, m2, (hg'.block _ lt (fun e => n2 (hr _ e.symm))).trans hl, (hg'.block _ (by omega) (fun e => n1 (hr _ e.symm))).trans hd⟩
      rcases List.mem_cons.1 h with rfl | h
      · exact .inl (by simp)
      · rcases List.mem_cons.1 h with rfl | h
        · exact .inl (by simp)
        · rcases hE _ h with h | h
          · exact .inl (by simp [h])
          · exact .inr h
    have hY : Yields n (N + 1) w0 all J Jx := by
      rintro E pre pl p pv sl W ⟨hi, n1, n2, hl, hd⟩ hw hpl hsl hrest k
      have lt : N + 1 < W.heap.size := (Array.getElem?_eq_some_iff.1 hl).1
      have mem : N + 1 ∈ N :: (N + 1) :: E := by simp
      refine ⟨fn, _, assign, body, run_yield hl (by simp [hps]), RoundIn.mono ?_ fun _ _ h => h⟩
      have hround : RoundIn Fence.wide (m - 1) Tryz.prog (N + 1) fn ((ps.zip #[pv, tval p sl]).foldl (fun t (p, v) => t.setIfInBounds p v) a.tmps) assign body W (fun e W' => (e = .returned (.bool true) ∧ J E (pre ++ [(pl, p)]) W' ∧ Kept w0.heap.size E W W') ∨ (e = .returned (.bool false) ∧ Jx E (pre ++ [(pl, p)]) W')) := by
        have hpvs : ∃ a n c, pv = .slice a n c := by
          rcases hpl.1.2 with ⟨rfl, _⟩ | ⟨g, cap, cur, rfl, _⟩
          · exact ⟨_, _, _, rfl⟩
          · exact ⟨_, _, _, rfl⟩
        have hsls : ∃ a n c, sl = .slice a n c := by
          obtain ⟨a, c, e, _⟩ := hsl.slice
          exact ⟨_, _, _, e⟩
        refine roundIn_of_wpIn hfn (hassign _ p pv sl W _ hpvs hsls fun a' Wa hba hax => ?_)
        have hin : ∀ r ∈ N :: (N + 1) :: E, Wa.heap[r]? = W.heap[r]? := fun r hr => hba.block r (hlow _ _ _ hi r hr)
        have hla : Wa.heap[N + 1]? = some (lp .ready none) := (hin _ mem).trans hl
        have lta : N + 1 < Wa.heap.size := (Array.getElem?_eq_some_iff.1 hla).1
        refine ⟨_, run_beginRound hla rfl, ?_⟩
        let Wb : World := Wa.putObj (N + 1) (lp .busy none)
        have hlb : Wb.heap[N + 1]? = some (lp .busy none) := World.putObj_heap_same lta
        have hoa : ∀ r, r ≠ N + 1 → Wb.heap[r]? = Wa.heap[r]? := fun r hr => World.putObj_heap_other hr
        have hob : ∀ r ∈ N :: (N + 1) :: E, r ≠ N + 1 → Wb.heap[r]? = W.heap[r]? := fun r hr hne => (hoa r hne).trans (hin r hr)
        have hba0 : Below w0.heap.size W Wa := hba.mono (by omega)
        have hbb : Below w0.heap.size W Wb := hba0.trans ⟨rfl, rfl, rfl, by simp [Wb], fun k hk => hoa k (by omega)⟩
        have ga : W.grownBy Wa none := ⟨hba.os, hba.tape, hba.output, hba.size, fun k hk _ => hba.block k hk⟩
        have hplb : PlaceV n (N :: (N + 1) :: E) Wb pv pl := by
          refine ⟨(hpl.1.kept ga (by cases pv.ownBlock <;> simp)).kept (grownBy_putObj' Wa (N + 1) _) ?_, fun g hg => by simp [hpl.2 g hg]⟩
          refine .inr fun e => n2 (hpl.2 _ e)
        have hia := hI _ _ _ _ _ _ hi ga (fun _ e => by cases e) (fun _ h => .inl h)
        refine wpIn_mono (hbody (N + 1) (N :: (N + 1) :: E) pre pl p pv sl a' Wb (hI.put _ hia mem) mem (hw.trans hbb) hplb hsl hrest (hAx _ _ _ _ _ _ _ _ hax hla)) ?_
        rintro e a3 W3 hp
        have fin : ∀ {jump : Option Code} {st : LoopState}, Kept w0.heap.size (N :: (N + 1) :: E) Wb W3 → (if jump.isNone then LoopState.ready else LoopState.done) = st →
            (Instr.endRound (N + 1) jump).run Tryz.prog W3 = .ok (.bool jump.isNone) (W3.putObj (N + 1) (lp st jump)) ∧ (W3.putObj (N + 1) (lp st jump)).heap[N + 1]? = some (lp st jump) ∧ (W3.putObj (N + 1) (lp st jump)).heap[N]? = some (.deferred (some [])) := by
          intro jump st hk hst
          have hl3 : W3.heap[N + 1]? = some (lp .busy none) := (hk.mine _ mem).trans hlb
          have hd3 : W3.heap[N]? = some (.deferred (some [])) := ((hk.mine _ (by simp)).trans (hob N (by simp) (by omega))).trans hd
          subst hst
          exact ⟨run_endRound jump hl3, World.putObj_heap_same (Array.getElem?_eq_some_iff.1 hl3).1, (World.putObj_heap_other (by omega)).trans hd3⟩
        cases e with
        | normal =>
          obtain ⟨hk, hi3⟩ := hp
          obtain ⟨h1, h2, h3⟩ := fin (jump := none) (st := .ready) hk rfl
          refine ⟨_, _, h1, .inl ⟨rfl, ⟨hI.put _ hi3 mem, n1, n2, h2, h3⟩, ?_⟩⟩
          refine ⟨hbb.trans (hk.below.trans ⟨rfl, rfl, rfl, by simp, fun k hk => World.putObj_heap_other (by omega)⟩), fun r hr => ?_⟩
          have hrn : r ≠ N + 1 := fun e => n2 (e ▸ hr)
          exact ((World.putObj_heap_other hrn).trans (hk.mine r (by simp [hr]))).trans (hob r (by simp [hr]) hrn)
        | ret =>
          obtain ⟨hk, hi3⟩ := hp
          obtain ⟨h1, h2, h3⟩ := fin (jump := some .ret) (st := .done) hk rfl
          exact ⟨_, _, h1, .inr ⟨rfl, hIx.put _ hi3 mem, h2, h3⟩⟩
        | exit id => exact hp.elim
        | goto t => exact hp.elim
        | panic ch => exact hp.elim
        | outgrown => exact hp.elim
      exact ⟨hround.1, fun c cs _ => hround.2 c cs (room_wide _)⟩
    refine (hseq W1 hb1 (m - 1) (N + 1) J Jx hJ hY ⟨hI1, by simp, by simp, hl1, hd1⟩).mono ?_
    rintro e W2 ⟨⟨v, rfl⟩, (⟨E, hi, n1, n2, hl, hd⟩ | ⟨E, pre, hi, hl, hd⟩)⟩
    · exact ⟨none, _, run_endLoop hl (by simp), hdone N _ _ (Nat.le_refl _) (hI.put _ hi (by simp)) (by simp) ((World.putObj_heap_other (by omega)).trans hd)⟩
    · exact ⟨some .ret, _, run_endLoop hl (by simp), hstop N _ pre _ (Nat.le_refl _) (hIx.put _ hi (by simp)) (by simp) ((World.putObj_heap_other (by omega)).trans hd)⟩
theorem range_own {ps : Array Tmp} {assign body : Code} {Q : Exit → Act → World → Prop} {a : Act} {w : World} {g : Operand} {n gf : Nat} {lb : Array Value} {w0 : World} {all : List Part} (m : Nat)
    (hg : a.eval g = .func (.func gf) #[] lb) (eg : ∀ args w, (callFunc gf args).run Tryz.prog w = .ok (.enter gf args) w) (hps : ps.size = 2)
    (hseq : ∀ W, Below w.heap.size w W → Iter n gf lb w0 all W)
    (I Ix : List Nat → List Part → World → Prop) (hI : Abide I) (hIx : Abide Ix) (h0 : I [] [] w) (hw0 : w0.heap.size ≤ w.heap.size) (hlow : ∀ E pre W, I E pre W → ∀ r ∈ E, r < W.heap.size) (a₁ : Value → Value → Act)
    (hassign : ∀ (l : Nat) (x y : Value) (W : World) (K : Act → World → Prop), K (a₁ x y) W →
      assign.wpIn (Fence.wide.inRound l) (m - 1) Tryz.prog (Exit.then K (fun _ _ _ => False)) { tmps := (ps.zip #[x, y]).foldl (fun t (p, v) => t.setIfInBounds p v) a.tmps, defers := [] } W)
    (hbody : ∀ (l : Nat) (E : List Nat) (pre : List Part) (pl : List Int) (p : T) (pv sl : Value) (W : World), I E pre W → l ∈ E → Below w0.heap.size w0 W → PlaceV n E W pv pl → ArgsAt w0 sl p.args → (∃ rest, pre ++ (pl, p) :: rest = all) →
      body.wpIn (Fence.wide.inRound l) (m - 1) Tryz.prog (endE w0.heap.size E I Ix (pre ++ [(pl, p)]) W) (a₁ pv (tval p sl)) W)
    (hdone : ∀ (D : Nat) (E : List Nat) (W : World), w.heap.size ≤ D → I E all W → D ∈ E → W.heap[D]? = some (.deferred (some [])) → Q .normal { a with defers := { target := .collected D, args := #[] } :: a.defers } W)
    (hstop : ∀ (D : Nat) (E : List Nat) (pre : List Part) (W : World), w.heap.size ≤ D → Ix E pre W → D ∈ E → W.heap[D]? = some (.deferred (some [])) → Code.ret.wpIn Fence.wide m Tryz.prog Q { a with defers := { target := .collected D, args := #[] } :: a.defers } W) :
    (Code.rangeFunc g ps assign body).wpIn Fence.wide m Tryz.prog Q a w :=
  range_ownA m hg eg hps hseq I Ix hI hIx h0 hw0 hlow (fun p x y a' _ => a' = a₁ x (tval p y)) (fun _ _ _ _ _ _ _ _ h _ => h)
    (fun l p pv sl W _ _ _ hK => hassign l pv (tval p sl) W _ (hK _ W (Below.refl _ _) rfl))
    (fun l E pre pl p pv sl a' W hi hl hw hpl hsl hr e => by subst e; exact hbody l E pre pl p pv sl W hi hl hw hpl hsl hr) hdone hstop
end
