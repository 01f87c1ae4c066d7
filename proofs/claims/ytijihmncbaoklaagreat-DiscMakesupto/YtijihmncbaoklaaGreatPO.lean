import Derived.Test.YtijihmncbaoklaaGreatPE
import Derived.Test.YtijihmncbaoklaaGreatK
import Derived.Sort.MapsRangeIn
import Derived.Maps.Ext
import Derived.Test.YtijihmncbaoklaaGreatPG
import Derived.RangeFuncBox

/-
  A range over an iterator of numbers; the keys of a map of numbers.
-/
namespace Go.Proofs.YtijihmncbaoklaaGreat
open Go.RowKit Go.Shelf Go.Maps

/-- What a call of yield does for the iterator. -/
def YieldsS (l : Nat) (w0 : World) (Nn : Nat) (J : List Nat → List Int → World → Prop) : Prop :=
  ∀ E pre s W, J E pre W → Below w0.heap.size w0 W → pre.length < Nn →
    ∀ m, YieldAt Fence.wide m Tryz.prog l #[.int .i64 s] W fun e W' => e = .returned (.bool true) ∧ J E (pre ++ [s]) W' ∧ Kept w0.heap.size E W W'

/-- What an iterator over symbols does, called in W. -/
def IterS (gf : Nat) (lb : Array Value) (w0 : World) (S : List Int → Prop) (Nn : Nat) (W : World) : Prop :=
  ∀ (m l : Nat) (J : List Nat → List Int → World → Prop), Abide J → YieldsS l w0 Nn J → J [] [] W →
    CallsIn Fence.wide m Tryz.prog gf (#[.func (.yield l) #[] #[]] ++ lb) W fun e W' => (∃ v, e = .returned v) ∧ ∃ E ss, S ss ∧ J E ss W'

theorem range_s {ps : Array Tmp} {assign body : Code} {Q : Exit → Act → World → Prop} {a : Act} {w : World} {g : Operand} {gf : Nat} {lb : Array Value} {w0 : World} {S : List Int → Prop} {Nn : Nat} (m : Nat)
    (hg : a.eval g = .func (.func gf) #[] lb) (eg : ∀ args w, (callFunc gf args).run Tryz.prog w = .ok (.enter gf args) w) (hps : ps.size = 1)
    (hseq : ∀ W, Below w.heap.size w W → IterS gf lb w0 S Nn W)
    (I : List Nat → List Int → World → Prop) (hI : Abide I) (h0 : I [] [] w) (hw0 : w0.heap.size ≤ w.heap.size) (hlow : ∀ E pre W, I E pre W → ∀ r ∈ E, r < W.heap.size)
    (Ax : Int → Act → World → Prop) (hAx : ∀ p a' W l r o, Ax p a' W → W.heap[l]? = some (.loop r) → Ax p a' (W.putObj l o))
    (hassign : ∀ (l : Nat) (p : Int) (W : World) (K : Act → World → Prop), (∀ a' W', Below W.heap.size W W' → Ax p a' W' → K a' W') →
      assign.wpIn (Fence.wide.inRound l) (m - 1) Tryz.prog (Exit.then K (fun _ _ _ => False)) { tmps := (ps.zip #[.int .i64 p]).foldl (fun t (p, v) => t.setIfInBounds p v) a.tmps, defers := [] } W)
    (hbody : ∀ (l : Nat) (E : List Nat) (pre : List Int) (p : Int) (a' : Act) (W : World), I E pre W → l ∈ E → Below w0.heap.size w0 W → pre.length < Nn → Ax p a' W →
      body.wpIn (Fence.wide.inRound l) (m - 1) Tryz.prog (endE w0.heap.size E I (fun _ _ _ => False) (pre ++ [p]) W) a' W)
    (hdone : ∀ (D : Nat) (E : List Nat) (ss : List Int) (W : World), w.heap.size ≤ D → S ss → I E ss W → D ∈ E → W.heap[D]? = some (.deferred (some [])) → Q .normal { a with defers := { target := .collected D, args := #[] } :: a.defers } W) :
    (Code.rangeFunc g ps assign body).wpIn Fence.wide m Tryz.prog Q a w := by
  refine wpIn_rangeFunc fun fn hfn => ?_
  let N := w.heap.size
  let lp : LoopState → Option Code → Obj := fun st pe => .loop { state := st, pending := pe, fn := fn, tmps := a.tmps, params := ps, assign := assign, body := body, defers := N }
  let W1 : World := (w.alloc (.deferred (some []))).alloc (lp .ready none)
  have hN : w.heap.size = N := rfl
  have hsz1 : W1.heap.size = N + 2 := by simp [W1, N]
  have hb1 : Below w.heap.size w W1 := below_box2 w _ _
  have hl1 : W1.heap[N + 1]? = some (lp .ready none) := by
    have := (MapKept.heap_alloc (w.alloc (.deferred (some []))) (lp .ready none)).1
    rwa [World.size_alloc] at this
  have hd1 : W1.heap[N]? = some (.deferred (some [])) := (Below.heap_alloc _ _ _ (by simp [N])).trans (MapKept.heap_alloc w _).1
  have hI1 : I [N, N + 1] [] W1 := by
    have g1 := World.grownBy_alloc w (.deferred (some [])) none
    have g2 := World.grownBy_alloc (w.alloc (.deferred (some []))) (lp .ready none) none
    have s1 : I [N] [] (w.alloc (.deferred (some []))) := hI _ _ _ _ _ _ h0 g1 (fun _ e => by cases e) (fun r hr => .inr (by simp at hr ⊢; omega))
    exact hI _ _ _ _ _ _ s1 g2 (fun _ e => by cases e) (fun r hr => by simp at hr ⊢; omega)
  refine ⟨N + 1, [{ target := .collected N, args := #[] }], W1, { target := .fn (.func gf) lb, args := #[.func (.yield (N + 1)) #[] #[]] }, W1, gf, #[.func (.yield (N + 1)) #[] #[]] ++ lb, W1, ?_, ?_, ?_, ?_, ?_, ?_⟩
  · exact run_enterLoop_outer _ _ _ _ _
  · simp only [resolve, hg]
    simp [go_sem]
  · intro f' _
    trivial
  · simp [invoke, go_sem, eg]
  · intro h
    cases h
  · let J : List Nat → List Int → World → Prop := fun E pre W => I (N :: (N + 1) :: E) pre W ∧ N ∉ E ∧ N + 1 ∉ E ∧ W.heap[N + 1]? = some (lp .ready none) ∧ W.heap[N]? = some (.deferred (some []))
    have hJ : Abide J := by
      rintro E E' s W W' row ⟨hi, n1, n2, hl, hd⟩ hg' hr hE
      have lt : N + 1 < W.heap.size := (Array.getElem?_eq_some_iff.1 hl).1
      have m1 : N ∉ E' := fun h => by
        rcases hE _ h with h | h
        · exact n1 h
        · omega
      have m2 : N + 1 ∉ E' := fun h => by
        rcases hE _ h with h | h
        · exact n2 h
        · omega
      refine ⟨hI _ _ _ _ _ _ hi hg' (fun r e => by simp [hr r e]) (fun r h => ?_), m1, m2, (hg'.block _ lt (fun e => n2 (hr _ e.symm))).trans hl, (hg'.block _ (by omega) (fun e => n1 (hr _ e.symm))).trans hd⟩
      rcases List.mem_cons.1 h with rfl | h
      · exact .inl (by simp)
      · rcases List.mem_cons.1 h with rfl | h
        · exact .inl (by simp)
        · rcases hE _ h with h | h
          · exact .inl (by simp [h])
          · exact .inr h
    have hY : YieldsS (N + 1) w0 Nn J := by
      rintro E pre p W ⟨hi, n1, n2, hl, hd⟩ hw hrest k
      have lt : N + 1 < W.heap.size := (Array.getElem?_eq_some_iff.1 hl).1
      have mem : N + 1 ∈ N :: (N + 1) :: E := by simp
      refine ⟨fn, _, assign, body, run_yield hl (by simp [hps]), RoundIn.mono ?_ fun _ _ h => h⟩
      have hround : RoundIn Fence.wide (m - 1) Tryz.prog (N + 1) fn ((ps.zip #[.int .i64 p]).foldl (fun t (p, v) => t.setIfInBounds p v) a.tmps) assign body W (fun e W' => e = .returned (.bool true) ∧ J E (pre ++ [p]) W' ∧ Kept w0.heap.size E W W') := by
        refine roundIn_of_wpIn hfn (hassign _ p W _ fun a' Wa hba hax => ?_)
        have hin : ∀ r ∈ N :: (N + 1) :: E, Wa.heap[r]? = W.heap[r]? := fun r hr => hba.block r (hlow _ _ _ hi r hr)
        have hla : Wa.heap[N + 1]? = some (lp .ready none) := (hin _ mem).trans hl
        have lta : N + 1 < Wa.heap.size := (Array.getElem?_eq_some_iff.1 hla).1
        refine ⟨_, run_beginRound hla rfl, ?_⟩
        let Wb : World := Wa.putObj (N + 1) (lp .busy none)
        have hlb : Wb.heap[N + 1]? = some (lp .busy none) := World.putObj_heap_same lta
        have hoa : ∀ r, r ≠ N + 1 → Wb.heap[r]? = Wa.heap[r]? := fun r hr => World.putObj_heap_other hr
        have hob : ∀ r ∈ N :: (N + 1) :: E, r ≠ N + 1 → Wb.heap[r]? = W.heap[r]? := fun r hr hne => (hoa r hne).trans (hin r hr)
        have hba0 : Below w0.heap.size W Wa := hba.mono (by omega)
        have hbb : Below w0.heap.size W Wb := hba0.trans ⟨rfl, rfl, rfl, by simp [Wb], fun k hk => hoa k (by omega)⟩
        have ga : W.grownBy Wa none := ⟨hba.os, hba.tape, hba.output, hba.size, fun k hk _ => hba.block k hk⟩
        have hia := hI _ _ _ _ _ _ hi ga (fun _ e => by cases e) (fun _ h => .inl h)
        refine wpIn_mono (hbody (N + 1) (N :: (N + 1) :: E) pre p a' Wb (hI.put _ hia mem) mem (hw.trans hbb) hrest (hAx _ _ _ _ _ _ hax hla)) ?_
        rintro e a3 W3 hp
        have fin : ∀ {jump : Option Code} {st : LoopState}, Kept w0.heap.size (N :: (N + 1) :: E) Wb W3 → (if jump.isNone then LoopState.ready else LoopState.done) = st →
            (Instr.endRound (N + 1) jump).run Tryz.prog W3 = .ok (.bool jump.isNone) (W3.putObj (N + 1) (lp st jump)) ∧ (W3.putObj (N + 1) (lp st jump)).heap[N + 1]? = some (lp st jump) ∧ (W3.putObj (N + 1) (lp st jump)).heap[N]? = some (.deferred (some [])) := by
          intro jump st hk hst
          have hl3 : W3.heap[N + 1]? = some (lp .busy none) := (hk.mine _ mem).trans hlb
          have hd3 : W3.heap[N]? = some (.deferred (some [])) := ((hk.mine _ (by simp)).trans (hob N (by simp) (by omega))).trans hd
          subst hst
          exact ⟨run_endRound jump hl3, World.putObj_heap_same (Array.getElem?_eq_some_iff.1 hl3).1, (World.putObj_heap_other (by omega)).trans hd3⟩
        cases e with
        | normal =>
          obtain ⟨hk, hi3⟩ := hp
          obtain ⟨h1, h2, h3⟩ := fin (jump := none) (st := .ready) hk rfl
          refine ⟨_, _, h1, rfl, ⟨hI.put _ hi3 mem, n1, n2, h2, h3⟩, ?_⟩
          refine ⟨hbb.trans (hk.below.trans ⟨rfl, rfl, rfl, by simp, fun k hk => World.putObj_heap_other (by omega)⟩), fun r hr => ?_⟩
          have hrn : r ≠ N + 1 := fun e => n2 (e ▸ hr)
          exact ((World.putObj_heap_other hrn).trans (hk.mine r (by simp [hr]))).trans (hob r (by simp [hr]) hrn)
        | ret => exact hp.2.elim
        | exit id => exact hp.elim
        | goto t => exact hp.elim
        | panic ch => exact hp.elim
        | outgrown => exact hp.elim
      exact ⟨hround.1, fun c cs _ => hround.2 c cs (room_wide _)⟩
    refine (hseq W1 hb1 (m - 1) (N + 1) J hJ hY ⟨hI1, by simp, by simp, hl1, hd1⟩).mono ?_
    rintro e W2 ⟨⟨v, rfl⟩, E, ss, hS, hi, n1, n2, hl, hd⟩
    exact ⟨none, _, run_endLoop hl (by simp), hdone N _ ss _ (Nat.le_refl _) hS (hI.put _ hi (by simp)) (by simp) ((World.putObj_heap_other (by omega)).trans hd)⟩


/-- The keys that have come. -/
structure ColS (σ : Sg) (left : Lit → Bool) (ss : List Int) : Prop where
  nd : ss.Nodup
  sub : ∀ s ∈ ss, σ s ≠ none
  left : ∀ s, σ s ≠ none → ∀ kl, keyOf Tryz.prog 3 (.int .i64 s) = some kl → (s ∈ ss ↔ left kl = false)

theorem ColS.step {σ : Sg} {left : Lit → Bool} {ss : List Int} (h : ColS σ left ss) {s : Int} (hs : σ s ≠ none) {kl : Lit} (hk : keyOf Tryz.prog 3 (.int .i64 s) = some kl) (hl : left kl = true) : ColS σ (fun z => left z && !z.sameKey kl) (ss ++ [s]) := by
  have hno : s ∉ ss := fun hm => by rw [(h.left s hs kl hk).1 hm] at hl; cases hl
  refine ⟨?_, fun r hr => ?_, fun r hr kr hkr => ?_⟩
  · rw [List.nodup_append]
    refine ⟨h.nd, by simp, fun x hx y hy => ?_⟩
    have : y = s := by simpa using hy
    subst this
    exact fun e => hno (e ▸ hx)
  · rcases List.mem_append.1 hr with hr | hr
    · exact h.sub r hr
    · have : r = s := by simpa using hr
      exact this ▸ hs
  · by_cases e : r = s
    · subst e
      rw [hk] at hkr
      cases hkr
      simp [WideAt.sameKey_self (keyed3.key hk)]
    · have hne : kr ≠ kl := fun e2 => e (by have := keyed3.inj hkr (e2 ▸ hk); injection this)
      have := h.left r hr kr hkr
      simp only [List.mem_append, List.mem_singleton, e, or_false, Maps.sameKey_ne hne, Bool.not_false, Bool.and_true]
      exact this
/-- All keys of the map, each once. -/
def AllKeys (σ : Sg) (ss : List Int) : Prop := ss.Nodup ∧ ∀ x, x ∈ ss ↔ σ x ≠ none
theorem ColS.all {σ : Sg} {left : Lit → Bool} {ss : List Int} (h : ColS σ left ss) (hk : ∀ x, σ x ≠ none → Fit64 x) (hl : ∀ kl, left kl = false) : AllKeys σ ss :=
  ⟨h.nd, fun x => ⟨h.sub x, fun hx => (h.left x hx _ (key3 (hk x hx))).2 (hl _)⟩⟩

theorem pm_some {σ : Sg} {x : Value} (h : pm σ x ≠ none) : ∃ s, x = .int .i64 s ∧ σ s ≠ none := by
  unfold pm at h
  split at h
  · rename_i v
    exact ⟨v, rfl, fun e => h (by rw [e]; rfl)⟩
  · exact absurd rfl h

theorem ranges_same {H : Type} {P : Program} {k : TypeId} {R : Value → Option (DataW H × List MemPlace)} {w w' : World} {b r n : Nat} {D : DataW H} {left : Lit → Bool} {cnt : Nat}
    (h : w.ranges P k R b r n D left cnt) (h1 : w'.heap[b]? = w.heap[b]?) (h2 : w'.heap[r]? = w.heap[r]?) : w'.ranges P k R b r n D left cnt := by
  obtain ⟨es, clock, since, seen, c0, hb, F, hs, hD, hr, rest⟩ := h
  exact ⟨es, clock, since, seen, c0, h1.trans hb, F, hs, hD, h2.trans hr, rest⟩
theorem ranges_lt {H : Type} {P : Program} {k : TypeId} {R : Value → Option (DataW H × List MemPlace)} {w : World} {b r n : Nat} {D : DataW H} {left : Lit → Bool} {cnt : Nat}
    (h : w.ranges P k R b r n D left cnt) : b < w.heap.size ∧ r < w.heap.size := by
  obtain ⟨es, clock, since, seen, c0, hb, F, hs, hD, hr, rest⟩ := h
  exact ⟨(Array.getElem?_eq_some_iff.1 hb).1, (Array.getElem?_eq_some_iff.1 hr).1⟩

set_option maxRecDepth 100000 in
set_option maxHeartbeats 2000000 in
theorem keys1_any (w0 : World) (Bm b : Nat) (σ : Sg) (n : Nat) (hf : ∀ x, σ x ≠ none → Fit64 x) (hb : b < w0.heap.size) (hM : MapIs w0 3 b (pm σ) n) (W : World) (hbel : Below w0.heap.size w0 W) (hm : W.cell? ⟨Bm, 0, none⟩ = some (.map (some b))) :
    IterS 117 #[.pointer (some ⟨Bm, 0, none⟩)] w0 (fun ss => AllKeys σ ss ∧ ss.length ≤ n) n W := by
  intro m l J hJ hY hj
  have hMW : MapIs W 3 b (pm σ) n := hM.same (hbel.block b hb)
  obtain ⟨D, hown, hsz, hRel⟩ := hMW
  refine callsIn_of_wp Tryz.func117 rfl trivial ?_ rfl
  simp only [Tryz.ntmps117, List.size_toArray, List.length_cons, List.length_nil, Nat.reduceAdd, Nat.reduceSub, Array.replicate_succ, Array.replicate_zero, List.push_toArray, List.append_toArray, List.nil_append, List.cons_append]
  gi_wp2_with (first
    | (gi_at_range; refine wpListIn_range_own _ rfl _ 121 rfl 3 32 keyed3 Tryz.underlying121 _ b n _ rfl hown ?_; intro w1 hrg0 hg0 hs0)
    | gi_in)
  go_frame
  have hstart : ColS σ (Maps.has D) [] := ⟨List.nodup_nil, fun _ h => (by cases h), fun s hs kl hk => by
    obtain ⟨q, hq⟩ := Option.ne_none_iff_exists'.1 hs
    have := (hRel (.int .i64 s) kl hk).1 (tval q.1 q.2) (by simp [pm, hq])
    simp [this.1]⟩
  gi_loopw [3] (fun _ wr => ∃ (left : Lit → Bool) (cnt : Nat) (E : List Nat) (ss : List Int), wr.ranges Tryz.prog 3 Rid b W.heap.size n D left cnt ∧ ss.length + cnt ≤ n ∧ ColS σ left ss ∧ J E ss wr ∧ W.heap.size ∈ E ∧ Below w0.heap.size w0 wr)
    (fun _ wr => wr.rangeLeft b W.heap.size)
  case atStart =>
    refine ⟨_, _, [W.heap.size], [], hrg0, by simp [hsz], hstart, hJ _ _ _ _ _ _ hj hg0 (fun r e => by cases e) (fun r hr => .inr (by simp at hr ⊢; omega)), by simp, hbel.grown hg0 hbel.size (fun k e => by cases e)⟩
  case round =>
    obtain ⟨left, cnt, E, ss, hrg, hcs, hC, hJs, hE, hbw⟩ := hrel
    gi_wp2_with (first
      | (gi_at_next; refine wpListIn_next_ranges (α := Value) (β := Value) _ rfl _ rfl 3 keyed3 Rid id id (fun key kl hk => ⟨key, rfl⟩) (fun v _ _ => ⟨v, rfl⟩) b W.heap.size n _ _ _ rfl hrg ?_ ?_)
      | gi_in)
    · intro hc0 hl0
      gi_wp2
      go_end0
      exact ⟨⟨_, rfl⟩, E, ss, ⟨hC.all hf hl0, by omega⟩, hJs⟩
    · intro x c kl yd yp w2 cnt2 hkx hlk hv hat hrg2 hlt hg2 hs2 hen
      have hhas := Maps.has_true_of_atKey hat
      obtain ⟨s, rfl, hsS⟩ : ∃ s, x = .int .i64 s ∧ σ s ≠ none := pm_some fun e => by
        have := (hRel x kl hkx).2 e
        rw [hhas] at this
        cases this
      have hJ2 : J E ss w2 := hJ _ _ _ _ _ _ hJs hg2 (fun r e => by cases e; exact hE) (fun _ h => .inl h)
      have hlow : w0.heap.size ≤ W.heap.size := hbel.size
      have hbw2 : Below w0.heap.size w0 w2 := hbw.grown hg2 hbw.size (fun k e => by cases e; exact hlow)
      obtain ⟨lb, lr⟩ := ranges_lt hrg2
      obtain ⟨fn, tmps, assign, body, hy, hR⟩ := hY E ss s w2 hJ2 hbw2 (by omega) (m - 1)
      have HC : Hid (ColS σ (fun z => left z && !z.sameKey kl) (ss ++ [s])) := hC.step hsS hkx hlk
      have HK : Hid (∀ W3, Kept w0.heap.size E w2 W3 → W3.ranges Tryz.prog 3 Rid b W.heap.size n D (fun z => left z && !z.sameKey kl) cnt2 ∧ Below w0.heap.size w0 W3) := fun W3 hk => ⟨ranges_same hrg2 (hk.below.block b hb) (hk.mine _ hE), hbw2.trans hk.below⟩
      have hle := hrg.left_eq
      clear hs2 hJ2 hJs hbw2 hg2 hrg2 hat hv hlk hkx hC hhas hsS
      gi_wp2
      refine ⟨fun h => (by cases h), hR.mono ?_⟩
      rintro e W3 ⟨rfl, hJ4, hk4⟩
      obtain ⟨hrg4, hb4⟩ := HK.out W3 hk4
      gi_wp2
      go_roundw
      case rel => exact ⟨_, cnt2, E, ss ++ [s], hrg4, by simp; omega, HC.out, hJ4, hE, hb4⟩
      case measure => rw [hrg4.left_eq, hle]; exact hlt

/-- maps.Keys: the map is boxed; the function value captures the box. -/
theorem keys_any (mb : Option Nat) (w : World) :
    Calls Tryz.prog 90 #[.map mb] w fun e w' => e = .returned (.func (.func 117) #[] #[.pointer (some ⟨w.heap.size, 0, none⟩)]) ∧ w' = w.alloc (.cells #[.map mb] 121) := by
  go_enter Tryz.func90, Tryz.ntmps90
  go_wp2
  go_ret
  exact ⟨rfl, rfl⟩

end Go.Proofs.YtijihmncbaoklaaGreat

/-
  Numbers collected: AppendSeq, Collect.
-/
namespace Go.Proofs.YtijihmncbaoklaaGreat
open Go.RowKit Go.Shelf Go.Maps

attribute [local go_sem] Oper.semAt_some

/-- The cells of a row of numbers. -/
def flatS (ss : List Int) : List Value := ss.map fun s => .int .i64 s
theorem flatS_snoc (ss : List Int) (s : Int) : flatS (ss ++ [s]) = flatS ss ++ [.int .i64 s] := by simp [flatS]

/-- What is collected, in a box. -/
structure ApS (w : World) (E : List Nat) (pre : List Int) (W : World) : Prop where
  box : ∃ v, Boxed W w.heap.size 49 v ∧ W.ownsRow w.heap.size 3 1 v pre.length (flatS pre) ∧ ∀ g, v.ownBlock = some g → g ∉ E
  out : w.heap.size ∉ E
  low : ∀ r ∈ E, w.heap.size ≤ r ∧ r < W.heap.size
  bel : Below w.heap.size w W

theorem ApS.abide (w : World) : Abide (ApS w) := by
  intro E E' s W W' row h hg hr hE
  obtain ⟨v, hv, hrow, hne⟩ := h.box
  have hlt := hv.lt
  have hsz := hg.size
  refine ⟨⟨v, hv.kept hg (fun e => h.out (hr _ e.symm)), hrow.kept hg ?_, fun g hgb hm => ?_⟩, fun hb => ?_, fun r hr' => ?_, h.bel.trans ⟨hg.os, hg.tape, hg.output, hg.size, fun k hk => hg.block k (Nat.lt_of_lt_of_le hk h.bel.size) (fun e => by have := h.low k (hr k e.symm); omega)⟩⟩
  · cases hb : v.ownBlock with
    | none => exact .inl rfl
    | some g => exact .inr fun e => hne g hb (hr g e.symm)
  · rcases hE g hm with h1 | h1
    · exact hne g hgb h1
    · have := (hrow.lt g hgb).2
      omega
  · rcases hE _ hb with h1 | h1
    · exact h.out h1
    · omega
  · rcases hE _ hr' with h1 | h1
    · have := h.low r h1
      omega
    · have := h.bel.size
      omega

set_option maxRecDepth 100000 in
set_option maxHeartbeats 4000000 in
theorem appendSeq_any (gf : Nat) (lb : Array Value) (eg : ∀ args w, (callFunc gf args).run Tryz.prog w = .ok (.enter gf args) w) (S : List Int → Prop) (Nn : Nat) (hN : Nn ≤ 1000000) (w : World) (hseq : ∀ W, Below w.heap.size w W → IterS gf lb w S Nn W) :
    Calls Tryz.prog 129 #[.slice none 0 0, .func (.func gf) #[] lb] w fun e w' => ∃ v ss, e = .returned v ∧ S ss ∧ w'.ownsRow w.heap.size 3 1 v ss.length (flatS ss) ∧ Below w.heap.size w w' := by
  refine (callsIn_wide (n := 9)).1 ?_
  obtain ⟨W0, hW0⟩ : ∃ W0, w.alloc (.cells #[.slice none 0 0] 49) = W0 := ⟨_, rfl⟩
  have hsz : W0.heap.size = w.heap.size + 1 := by rw [← hW0]; simp
  have hbel : Below w.heap.size w W0 := by rw [← hW0]; exact below_box w _
  have hB0 : Boxed W0 w.heap.size 49 (.slice none 0 0) := by rw [← hW0]; exact Boxed.new w 49 _
  obtain ⟨i0, hi0, hz0, hz1, hz2⟩ := info_parts Tryz.info3
  refine callsIn_of_wp_marks Tryz.func129 rfl trivial ?_ rfl
  simp only [Tryz.ntmps129, List.size_toArray, List.length_cons, List.length_nil, Nat.reduceAdd, Nat.reduceSub, Array.replicate_succ, Array.replicate_zero, List.push_toArray, List.append_toArray, List.nil_append, List.cons_append]
  gi_wp2
  try rw [hW0]
  clear hW0
  refine range_s (w0 := w) (S := S) (Nn := Nn) (gf := gf) (lb := lb) 9 rfl eg rfl
    (fun W hW => hseq W (hbel.trans (hW.mono (by omega))))
    (ApS w) (ApS.abide w)
    ⟨⟨_, hB0, World.ownsRow_nil _ _ _ _, fun g e => by cases e⟩, by simp, by simp, hbel⟩ (by omega) (fun _ _ _ h r hr => (h.low r hr).2)
    (fun p a' _ => a' = { tmps := #[.slice none 0 0, .func (.func gf) #[] lb, .pointer (some ⟨w.heap.size, 0, none⟩), undef, .slice none 0 0, .int .i64 p, .func (.func gf) #[] lb, .int .i64 p, undef, undef, undef, undef, undef], defers := [] })
    ?hax ?assign ?body ?done
  case hax =>
    rintro p a' W l r o rfl hl
    rfl
  case assign =>
    rintro lx p W K hK
    gi_wp2
    refine hK _ _ (Below.refl _ _) ?_
    simp
  case body =>
    rintro lx E pre p a' W hi hl hw hlen rfl
    obtain ⟨v, hv, hrow, hne⟩ := hi.box
    have hcell := hv.cell
    have HI : Hid (ApS w E pre W ∧ Boxed W w.heap.size 49 v ∧ W.ownsRow w.heap.size 3 1 v pre.length (flatS pre) ∧ (∀ g, v.ownBlock = some g → g ∉ E)) := ⟨hi, hv, hrow, hne⟩
    obtain ⟨va, vc, rfl⟩ := rowB_form hrow
    have hrowA := hrow.alloc (.cells #[.int .i64 p] 3)
    have hwsz : w.heap.size ≤ W.heap.size := hi.bel.size
    clear hi hv hrow hne hw
    gi_wp2_with (first
      | (gi_at_builtin; refine wpListIn_append_own_at _ rfl _ _ 49 rfl w.heap.size 3 i0 _ 1 8 Tryz.underlying49 hi0 hz0 hz1 hz2 rfl (by decide) _ _ _ rfl hrowA ⟨W.heap.size, 0, none⟩ 1 1 [.int .i64 p] rfl rfl (fun j x hj => by { rw [Addr.add_mid, Nat.zero_add, cell_of_row _ _ _ _ 3 (0, 0) (MapKept.heap_alloc W _).1]; simpa using hj }) (by simp [Value.oneCell']) (by unfold maxLen; omega) (by omega) (by simp; omega) ?_; intro v' w3 hown' hg3 hnil3 hat3; obtain ⟨va', vc', rfl⟩ := rowB_form hown'; have kk := HI.out.2.1.appended (by decide) HI.out.2.2.1 hwsz (Nat.le_refl _) hown' hg3; have cb := kk.1.cell; have fb := kk.1.frozen; have HK : Hid ((Boxed (w3.setCell ⟨w.heap.size, 0, none⟩ (.slice va' (pre.length + 1) vc')) w.heap.size 49 (.slice va' (pre.length + 1) vc') ∧ (w3.setCell ⟨w.heap.size, 0, none⟩ (.slice va' (pre.length + 1) vc')).ownsRow w.heap.size 3 1 (.slice va' (pre.length + 1) vc') (pre.length + 1) (flatS pre ++ [.int .i64 p]) ∧ Below w.heap.size W (w3.setCell ⟨w.heap.size, 0, none⟩ (.slice va' (pre.length + 1) vc'))) ∧ (W.alloc (.cells #[.int .i64 p] 3)).grownBy w3 (Value.slice va pre.length vc).ownBlock ∧ ((Value.slice va' (pre.length + 1) vc').ownBlock = (Value.slice va pre.length vc).ownBlock ∨ (Value.slice va' (pre.length + 1) vc').ownBlock = some (W.alloc (.cells #[.int .i64 p] 3)).heap.size)) := ⟨⟨kk.2.1, kk.2.2.1, kk.2.2.2.2⟩, hg3, hat3⟩; clear kk hg3 hnil3 hat3 hown'))
    obtain ⟨⟨q1, q2, q3⟩, q4, q5⟩ := HK.out
    have hi := HI.out.1
    have hWlt : ∀ r ∈ E, r < W.heap.size := fun r hr => (hi.low r hr).2
    refine ⟨⟨q3, fun r hr => ?_⟩, ⟨⟨_, q1, by rw [flatS_snoc]; simpa using q2, fun g hg hm => ?_⟩, hi.out, fun r hr => ?_, hi.bel.trans q3⟩⟩
    · have e1 : r ≠ w.heap.size := fun e => hi.out (e ▸ hr)
      rw [Below.heap_setCell _ ⟨w.heap.size, 0, none⟩ _ r e1]
      have hlt := hWlt r hr
      exact (q4.block r (by simp; omega) (fun e => HI.out.2.2.2 r e.symm hr)).trans (Below.heap_alloc _ _ _ hlt)
    · rcases q5 with q5 | q5
      · exact HI.out.2.2.2 g (q5 ▸ hg) hm
      · rw [q5] at hg
        have := hWlt g hm
        have : g = W.heap.size + 1 := by have := Option.some.inj hg; simp at this; omega
        omega
    · have := hi.low r hr
      have := q3.size
      omega
  case done =>
    rintro D E ss W hD hS hi hDE hK
    obtain ⟨v, hv, hrow, hne⟩ := hi.box
    have hcd := hv.cell
    gi_wp2
    refine ⟨by simp, .inl ⟨_, _, rfl, run_takeDeferred hK, ?_⟩⟩
    refine ⟨_, results_tmp rfl _ _ _, v, ss, rfl, hS, ?_, hi.bel.trans ⟨rfl, rfl, rfl, by simp, fun k hk => World.putObj_heap_other (by omega)⟩⟩
    exact row6_keep hrow (fun g hg => World.putObj_heap_other (fun e => hne g hg (e ▸ hDE)))

theorem collect_any (gf : Nat) (lb : Array Value) (eg : ∀ args w, (callFunc gf args).run Tryz.prog w = .ok (.enter gf args) w) (S : List Int → Prop) (Nn : Nat) (hN : Nn ≤ 1000000) (w : World) (hseq : ∀ W, Below w.heap.size w W → IterS gf lb w S Nn W) :
    Calls Tryz.prog 116 #[.func (.func gf) #[] lb] w fun e w' => ∃ v ss, e = .returned v ∧ S ss ∧ w'.ownsRow w.heap.size 3 1 v ss.length (flatS ss) ∧ Below w.heap.size w w' := by
  have hcall := appendSeq_any gf lb eg S Nn hN w hseq
  clear hseq
  go_enter Tryz.func116, Tryz.ntmps116
  go_wp2_with fail
  refine hcall.mono ?_
  rintro e W2 ⟨v, ss, rfl, h1, h2, h3⟩
  go_wp2
  go_ret
  exact ⟨v, ss, rfl, h1, h2, h3⟩

end Go.Proofs.YtijihmncbaoklaaGreat
