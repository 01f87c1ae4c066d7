/-
  A range over an iterator that writes into blocks of its own, while the body writes into others: the law, whatever is handed out.
-/
import Derived.Test.YtijihmncbaoklaaGreatH
namespace Go.Proofs.YtijihmncbaoklaaGreat
open Go.RowKit Go.Shelf

/-- Behind a round: the blocks D, and the iterator's own, lie as they lay. -/
structure KeptD (D : Nat → Prop) (E : List Nat) (W W' : World) : Prop where
  size : W.heap.size ≤ W'.heap.size
  keep : ∀ b, D b → W'.heap[b]? = W.heap[b]?
  mine : ∀ r ∈ E, W'.heap[r]? = W.heap[r]?

theorem KeptD.refl (D : Nat → Prop) (E : List Nat) (W : World) : KeptD D E W W := ⟨Nat.le_refl _, fun _ _ => rfl, fun _ _ => rfl⟩
theorem KeptD.trans {D : Nat → Prop} {E : List Nat} {X Y Z : World} (h : KeptD D E X Y) (k : KeptD D E Y Z) : KeptD D E X Z := ⟨Nat.le_trans h.size k.size, fun b hb => (k.keep b hb).trans (h.keep b hb), fun r hr => (k.mine r hr).trans (h.mine r hr)⟩

/-- How a round's body may end. -/
def endD {γ : Type} (D : Nat → Prop) (E : List Nat) (I Ix : List Nat → γ → World → Prop) (s : γ) (W : World) : Exit → Act → World → Prop
  | .normal, _, W' => KeptD D E W W' ∧ I E s W'
  | .ret, _, W' => KeptD D E W W' ∧ Ix E s W'
  | _, _, _ => False

/-- The blocks D lie as in w0. -/
def SameD (D : Nat → Prop) (w0 W : World) : Prop := ∀ b, D b → W.heap[b]? = w0.heap[b]?
theorem SameD.next {D : Nat → Prop} {w0 W W' : World} (h : SameD D w0 W) (k : ∀ b, D b → W'.heap[b]? = W.heap[b]?) : SameD D w0 W' := fun b hb => (k b hb).trans (h b hb)

/-- What a call of yield does for the iterator. -/
def YieldsG {α β : Type} (iv : α → β → Array Value) (Ok : α → β → Prop) (l : Nat) (D : Nat → Prop) (w0 : World) (all : List α) (J Jx : List Nat → List α → World → Prop) : Prop :=
  ∀ E pre x y W, J E pre W → SameD D w0 W → Ok x y → (∃ rest, pre ++ x :: rest = all) →
    ∀ m, YieldAt Fence.wide m Tryz.prog l (iv x y) W fun e W' => (e = .returned (.bool true) ∧ J E (pre ++ [x]) W' ∧ KeptD D E W W') ∨ (e = .returned (.bool false) ∧ Jx E (pre ++ [x]) W')

/-- What an iterator does, called in W. -/
def IterG {α β : Type} (iv : α → β → Array Value) (Ok : α → β → Prop) (gf : Nat) (lb : Array Value) (D : Nat → Prop) (w0 : World) (all : List α) (E0 : List Nat) (W : World) : Prop :=
  ∀ (m l : Nat) (J Jx : List Nat → List α → World → Prop), Abide J → YieldsG iv Ok l D w0 all J Jx → J E0 [] W →
    CallsIn Fence.wide m Tryz.prog gf (#[.func (.yield l) #[] #[]] ++ lb) W fun e W' => (∃ v, e = .returned v) ∧ ((∃ E, J E all W') ∨ (∃ E pre, Jx E pre W'))

theorem range_g {α β : Type} {iv : α → β → Array Value} {Ok : α → β → Prop} {D : Nat → Prop} {nv : Nat} {ps : Array Tmp} {assign body : Code} {Q : Exit → Act → World → Prop} {a : Act} {w : World} {g : Operand} {gf : Nat} {lb : Array Value} {w0 : World} {all : List α} {E0 : List Nat} (m : Nat)
    (hg : a.eval g = .func (.func gf) #[] lb) (eg : ∀ args w, (callFunc gf args).run Tryz.prog w = .ok (.enter gf args) w) (hps : ps.size = nv) (hiv : ∀ x y, (iv x y).size = nv) (hDl : ∀ b, D b → b < w.heap.size)
    (hseq : ∀ W, Below w.heap.size w W → IterG iv Ok gf lb D w0 all E0 W)
    (I Ix : List Nat → List α → World → Prop) (hI : Abide I) (hIx : Abide Ix) (h0 : I E0 [] w) (hlow : ∀ E pre W, I E pre W → ∀ r ∈ E, r < W.heap.size)
    (Ax : α → β → Act → World → Prop) (hAx : ∀ p y a' W l r o, Ax p y a' W → W.heap[l]? = some (.loop r) → Ax p y a' (W.putObj l o))
    (hassign : ∀ (l : Nat) (p : α) (y : β) (W : World) (K : Act → World → Prop), Ok p y → (∀ a' W', Below W.heap.size W W' → Ax p y a' W' → K a' W') →
      assign.wpIn (Fence.wide.inRound l) (m - 1) Tryz.prog (Exit.then K (fun _ _ _ => False)) { tmps := (ps.zip (iv p y)).foldl (fun t (p, v) => t.setIfInBounds p v) a.tmps, defers := [] } W)
    (hbody : ∀ (l : Nat) (E : List Nat) (pre : List α) (p : α) (y : β) (a' : Act) (W : World), I E pre W → l ∈ E → SameD D w0 W → Ok p y → (∃ rest, pre ++ p :: rest = all) → Ax p y a' W →
      body.wpIn (Fence.wide.inRound l) (m - 1) Tryz.prog (endD D E I Ix (pre ++ [p]) W) a' W)
    (hdone : ∀ (D : Nat) (E : List Nat) (W : World), w.heap.size ≤ D → I E all W → D ∈ E → W.heap[D]? = some (.deferred (some [])) → Q .normal { a with defers := { target := .collected D, args := #[] } :: a.defers } W)
    (hstop : ∀ (D : Nat) (E : List Nat) (pre : List α) (W : World), w.heap.size ≤ D → Ix E pre W → D ∈ E → W.heap[D]? = some (.deferred (some [])) → Code.ret.wpIn Fence.wide m Tryz.prog Q { a with defers := { target := .collected D, args := #[] } :: a.defers } W) :
    (Code.rangeFunc g ps assign body).wpIn Fence.wide m Tryz.prog Q a w := by
  refine wpIn_rangeFunc fun fn hfn => ?_
  let N := w.heap.size
  let lp : LoopState → Option Code → Obj := fun st pe => .loop { state := st, pending := pe, fn := fn, tmps := a.tmps, params := ps, assign := assign, body := body, defers := N }
  let W1 : World := (w.alloc (.deferred (some []))).alloc (lp .ready none)
  have hN : w.heap.size = N := rfl
  have hsz1 : W1.heap.size = N + 2 := by simp [W1, N]
  have hb1 : Below w.heap.size w W1 := below_box2 w _ _
  have hl1 : W1.heap[N + 1]? = some (lp .ready none) := by
    have := (MapKept.heap_alloc (w.alloc (.deferred (some []))) (lp .ready none)).1
    rwa [World.size_alloc] at this
  have hd1 : W1.heap[N]? = some (.deferred (some [])) := (Below.heap_alloc _ _ _ (by simp [N])).trans (MapKept.heap_alloc w _).1
  have hE0 : ∀ r ∈ E0, r < N := fun r hr => hlow _ _ _ h0 r hr
  have hI1 : I (N :: (N + 1) :: E0) [] W1 := by
    have g1 := World.grownBy_alloc w (.deferred (some [])) none
    have g2 := World.grownBy_alloc (w.alloc (.deferred (some []))) (lp .ready none) none
    have s1 : I (N :: E0) [] (w.alloc (.deferred (some []))) := hI _ _ _ _ _ _ h0 g1 (fun _ e => by cases e) (fun r hr => by
      rcases List.mem_cons.1 hr with rfl | hr
      · exact .inr ⟨Nat.le_refl _, by simp [N]⟩
      · exact .inl hr)
    exact hI _ _ _ _ _ _ s1 g2 (fun _ e => by cases e) (fun r hr => by
      rcases List.mem_cons.1 hr with rfl | hr
      · exact .inl (by simp)
      · rcases List.mem_cons.1 hr with rfl | hr
        · exact .inr ⟨by simp [N], by rw [hsz1]; omega⟩
        · exact .inl (by simp [hr]))
  refine ⟨N + 1, [{ target := .collected N, args := #[] }], W1, { target := .fn (.func gf) lb, args := #[.func (.yield (N + 1)) #[] #[]] }, W1, gf, #[.func (.yield (N + 1)) #[] #[]] ++ lb, W1, ?_, ?_, ?_, ?_, ?_, ?_⟩
  · exact run_enterLoop_outer _ _ _ _ _
  · simp only [resolve, hg]
    simp [go_sem]
  · intro f' _
    trivial
  · simp [invoke, go_sem, eg]
  · intro h
    cases h
  · let J : List Nat → List α → World → Prop := fun E pre W => I (N :: (N + 1) :: E) pre W ∧ N ∉ E ∧ N + 1 ∉ E ∧ W.heap[N + 1]? = some (lp .ready none) ∧ W.heap[N]? = some (.deferred (some []))
    let Jx : List Nat → List α → World → Prop := fun E pre W => Ix (N :: (N + 1) :: E) pre W ∧ W.heap[N + 1]? = some (lp .done (some .ret)) ∧ W.heap[N]? = some (.deferred (some []))
    have hJ : Abide J := by
      rintro E E' s W W' row ⟨hi, n1, n2, hl, hd⟩ hg' hr hE
      have lt : N + 1 < W.heap.size := (Array.getElem?_eq_some_iff.1 hl).1
      have m1 : N ∉ E' := fun h => by
        rcases hE _ h with h | h
        · exact n1 h
        · omega
      have m2 : N + 1 ∉ E' := fun h => by
        rcases hE _ h with h | h
        · exact n2 h
        · omega
      refine ⟨hI _ _ _ _ _ _ hi hg' (fun r e => by simp [hr r e]) (fun r h => ?_), m1, m2, (hg'.block _ lt (fun e => n2 (hr _ e.symm))).trans hl, (hg'.block _ (by omega) (fun e => n1 (hr _ e.symm))).trans hd⟩
      rcases List.mem_cons.1 h with rfl | h
      · exact .inl (by simp)
      · rcases List.mem_cons.1 h with rfl | h
        · exact .inl (by simp)
        · rcases hE _ h with h | h
          · exact .inl (by simp [h])
          · exact .inr h
    have hY : YieldsG iv Ok (N + 1) D w0 all J Jx := by
      rintro E pre p y W ⟨hi, n1, n2, hl, hd⟩ hw hok hrest k
      have lt : N + 1 < W.heap.size := (Array.getElem?_eq_some_iff.1 hl).1
      have mem : N + 1 ∈ N :: (N + 1) :: E := by simp
      refine ⟨fn, _, assign, body, run_yield hl (by rw [hps, hiv]), RoundIn.mono ?_ fun _ _ h => h⟩
      have hround : RoundIn Fence.wide (m - 1) Tryz.prog (N + 1) fn ((ps.zip (iv p y)).foldl (fun t (p, v) => t.setIfInBounds p v) a.tmps) assign body W (fun e W' => (e = .returned (.bool true) ∧ J E (pre ++ [p]) W' ∧ KeptD D E W W') ∨ (e = .returned (.bool false) ∧ Jx E (pre ++ [p]) W')) := by
        refine roundIn_of_wpIn hfn (hassign _ p y W _ hok fun a' Wa hba hax => ?_)
        have hin : ∀ r ∈ N :: (N + 1) :: E, Wa.heap[r]? = W.heap[r]? := fun r hr => hba.block r (hlow _ _ _ hi r hr)
        have hla : Wa.heap[N + 1]? = some (lp .ready none) := (hin _ mem).trans hl
        have lta : N + 1 < Wa.heap.size := (Array.getElem?_eq_some_iff.1 hla).1
        refine ⟨_, run_beginRound hla rfl, ?_⟩
        let Wb : World := Wa.putObj (N + 1) (lp .busy none)
        have hlb : Wb.heap[N + 1]? = some (lp .busy none) := World.putObj_heap_same lta
        have hoa : ∀ r, r ≠ N + 1 → Wb.heap[r]? = Wa.heap[r]? := fun r hr => World.putObj_heap_other hr
        have hob : ∀ r ∈ N :: (N + 1) :: E, r ≠ N + 1 → Wb.heap[r]? = W.heap[r]? := fun r hr hne => (hoa r hne).trans (hin r hr)
        have ltW : N + 1 < W.heap.size := lt
        have hbb : ∀ b, D b → Wb.heap[b]? = W.heap[b]? := fun b hb => (hoa b (by have := hDl b hb; omega)).trans (hba.block b (by have := hDl b hb; omega))
        have ga : W.grownBy Wa none := ⟨hba.os, hba.tape, hba.output, hba.size, fun k hk _ => hba.block k hk⟩
        have hia := hI _ _ _ _ _ _ hi ga (fun _ e => by cases e) (fun _ h => .inl h)
        refine wpIn_mono (hbody (N + 1) (N :: (N + 1) :: E) pre p y a' Wb (hI.put _ hia mem) mem (hw.next hbb) hok hrest (hAx _ _ _ _ _ _ _ hax hla)) ?_
        rintro e a3 W3 hp
        have fin : ∀ {jump : Option Code} {st : LoopState}, KeptD D (N :: (N + 1) :: E) Wb W3 → (if jump.isNone then LoopState.ready else LoopState.done) = st →
            (Instr.endRound (N + 1) jump).run Tryz.prog W3 = .ok (.bool jump.isNone) (W3.putObj (N + 1) (lp st jump)) ∧ (W3.putObj (N + 1) (lp st jump)).heap[N + 1]? = some (lp st jump) ∧ (W3.putObj (N + 1) (lp st jump)).heap[N]? = some (.deferred (some [])) := by
          intro jump st hk hst
          have hl3 : W3.heap[N + 1]? = some (lp .busy none) := (hk.mine _ mem).trans hlb
          have hd3 : W3.heap[N]? = some (.deferred (some [])) := ((hk.mine _ (by simp)).trans (hob N (by simp) (by omega))).trans hd
          subst hst
          exact ⟨run_endRound jump hl3, World.putObj_heap_same (Array.getElem?_eq_some_iff.1 hl3).1, (World.putObj_heap_other (by omega)).trans hd3⟩
        cases e with
        | normal =>
          obtain ⟨hk, hi3⟩ := hp
          obtain ⟨h1, h2, h3⟩ := fin (jump := none) (st := .ready) hk rfl
          refine ⟨_, _, h1, .inl ⟨rfl, ⟨hI.put _ hi3 mem, n1, n2, h2, h3⟩, ?_⟩⟩
          refine ⟨?_, fun b hb => (World.putObj_heap_other (by have := hDl b hb; omega)).trans ((hk.keep b hb).trans (hbb b hb)), fun r hr => ?_⟩
          · have h8 := hk.size
            have h9 : Wb.heap.size = Wa.heap.size := by simp [Wb]
            have h7 := hba.size
            simp
            omega
          have hrn : r ≠ N + 1 := fun e => n2 (e ▸ hr)
          exact ((World.putObj_heap_other hrn).trans (hk.mine r (by simp [hr]))).trans (hob r (by simp [hr]) hrn)
        | ret =>
          obtain ⟨hk, hi3⟩ := hp
          obtain ⟨h1, h2, h3⟩ := fin (jump := some .ret) (st := .done) hk rfl
          exact ⟨_, _, h1, .inr ⟨rfl, hIx.put _ hi3 mem, h2, h3⟩⟩
        | exit id => exact hp.elim
        | goto t => exact hp.elim
        | panic ch => exact hp.elim
        | outgrown => exact hp.elim
      exact ⟨hround.1, fun c cs _ => hround.2 c cs (room_wide _)⟩
    refine (hseq W1 hb1 (m - 1) (N + 1) J Jx hJ hY ⟨hI1, fun h => by have := hE0 _ h; omega, fun h => by have := hE0 _ h; omega, hl1, hd1⟩).mono ?_
    rintro e W2 ⟨⟨v, rfl⟩, (⟨E, hi, n1, n2, hl, hd⟩ | ⟨E, pre, hi, hl, hd⟩)⟩
    · exact ⟨none, _, run_endLoop hl (by simp), hdone N _ _ (Nat.le_refl _) (hI.put _ hi (by simp)) (by simp) ((World.putObj_heap_other (by omega)).trans hd)⟩
    · exact ⟨some .ret, _, run_endLoop hl (by simp), hstop N _ pre _ (Nat.le_refl _) (hIx.put _ hi (by simp)) (by simp) ((World.putObj_heap_other (by omega)).trans hd)⟩

end Go.Proofs.YtijihmncbaoklaaGreat
