import Derived.Test.YthkinkcpfcpehaaGreatDoorFQ
import Derived.RangeFuncNested
import Derived.RangeFuncBound
import Derived.RangeFuncCalls
import Derived.RangeFuncLeaves
import Derived.Shelf.RegionOpen
import Derived.OwnWalkIn
import Derived.TacticsInMore
import Derived.LoopNIn
import Derived.LoopIn
import Derived.Test.YthkinkcpfcpehaaGreatDoorGB
namespace Go.Proofs.YthkinkcpfcpehaaGreatDoor
set_option maxRecDepth 100000
set_option maxHeartbeats 4000000
section
open Go.RowKit Go.Shelf
/-- Behind a round: the blocks D, and the iterator's own, lie as they lay. -/
structure KeptD (D : Nat → Prop) (E : List Nat) (W W' : World) : Prop where
  size : W.heap.size ≤ W'.heap.size
  keep : ∀ b, D b → W'.heap[b]? = W.heap[b]?
  mine : ∀ r ∈ E, W'.heap[r]? = W.heap[r]?
/-- How a round's body may end. -/
def endD {γ : Type} (D : Nat → Prop) (E : List Nat) (I Ix : List Nat → γ → World → Prop) (s : γ) (W : World) : Exit → Act → World → Prop
  | .normal, _, W' => KeptD D E W W' ∧ I E s W'
  | .ret, _, W' => KeptD D E W W' ∧ Ix E s W'
  | _, _, _ => False
/-- The blocks D lie as in w0. -/
def SameD (D : Nat → Prop) (w0 W : World) : Prop := ∀ b, D b → W.heap[b]? = w0.heap[b]?
theorem SameD.next {D : Nat → Prop} {w0 W W' : World} (h : SameD D w0 W) (k : ∀ b, D b → W'.heap[b]? = W.heap[b]?) : SameD D w0 W' := fun b hb => (k b hb).trans (h b hb)
/-- What a call of yield does for the iterator. -/
def YieldsG {α β : Type} (iv : α → β → Array Value) (Ok : α → β → Prop) (l : Nat) (D : Nat → Prop) (w0 : World) (all : List α) (J Jx : List Nat → List α → World → Prop) : Prop :=
  ∀ E pre x y W, J E pre W → SameD D w0 W → Ok x y → (∃ rest, pre ++ x :: rest = all) →
    ∀ m, YieldAt Fence.wide m Tryz.prog l (iv x y) W fun e W' => (e = .returned (.bool true) ∧ J E (pre ++ [x]) W' ∧ KeptD D E W W') ∨ (e = .returned (.bool false) ∧ Jx E (pre ++ [x]) W')
/-- What an iterator does, called in W. -/
def IterG {α β : Type} (iv : α → β → Array Value) (Ok : α → β → Prop) (gf : Nat) (lb : Array Value) (D : Nat → Prop) (w0 : World) (all : List α) (E0 : List Nat) (W : World) : Prop :=
  ∀ (m l : Nat) (J Jx : List Nat → List α → World → Prop), Abide J → YieldsG iv Ok l D w0 all J Jx → J E0 [] W →
    CallsIn Fence.wide m Tryz.prog gf (#[.func (.yield l) #[] #[]] ++ lb) W fun e W' => (∃ v, e = .returned v) ∧ ((∃ E, J E all W') ∨ (∃ E pre, Jx E pre W'))
theorem range_g {α β : Type} {iv : α → β → Array Value} {Ok : α → β → Prop} {D : Nat → Prop} {nv : Nat} {ps : Array Tmp} {assign body : Code} {Q : Exit → Act → World → Prop} {a : Act} {w : World} {g : Operand} {gf : Nat} {lb : Array Value} {w0 : World} {all : List α} {E0 : List Nat} (m : Nat)
    (hg : a.eval g = .func (.func gf) #[] lb) (eg : ∀ args w, (callFunc gf args).run Tryz.prog w = .ok (.enter gf args) w) (hps : ps.size = nv) (hiv : ∀ x y, (iv x y).size = nv) (hDl : ∀ b, D b → b < w.heap.size)
    (hseq : ∀ W, Below w.heap.size w W → IterG iv Ok gf lb D w0 all E0 W)
    (I Ix : List Nat → List α → World → Prop) (hI : Abide I) (hIx : Abide Ix) (h0 : I E0 [] w) (hlow : ∀ E pre W, I E pre W → ∀ r ∈ E, r < W.heap.size)
    (Ax : α → β → Act → World → Prop) (hAx : ∀ p y a' W l r o, Ax p y a' W → W.heap[l]? = some (.loop r) → Ax p y a' (W.putObj l o))
    (hassign : ∀ (l : Nat) (p : α) (y : β) (W : World) (K : Act → World → Prop), Ok p y → (∀ a' W', Below W.heap.size W W' → Ax p y a' W' → K a' W') →
      assign.wpIn (Fence.wide.inRound l) (m - 1) Tryz.prog (Exit.then K (fun _ _ _ => False)) { tmps := (ps.zip (iv p y)).foldl (fun t (p, v) => t.setIfInBounds p v) a.tmps, defers := [] } W)
    (hbody : ∀ (l : Nat) (E : List Nat) (pre : List α) (p : α) (y : β) (a' : Act) (W : World), I E pre W → l ∈ E → SameD D w0 W → Ok p y → (∃ rest, pre ++ p :: rest = all) → Ax p y a' W →
      body.wpIn (Fence.wide.inRound l) (m - 1) Tryz.prog (endD D E I Ix (pre ++ [p]) W) a' W)
    (hdone : ∀ (D : Nat) (E : List Nat) (W : World), w.heap.size ≤ D → I E all W → D ∈ E → W.heap[D]? = some (.deferred (some [])) → Q .normal { a with defers := { target := .collected D, args := #[] } :: a.defers } W)
    (hstop : ∀ (D : Nat) (E : List Nat) (pre : List α) (W : World), w.heap.size ≤ D → Ix E pre W → D ∈ E → W.heap[D]? = some (.deferred (some [])) → Code.ret.wpIn Fence.wide m Tryz.prog Q { a with defers := { target := .collected D, args := #[] } :: a.defers } W) :
    (Code.rangeFunc g ps assign body).wpIn Fence.wide m Tryz.prog Q a w := by
  refine wpIn_rangeFunc fun fn hfn => ?_
  let N := w.heap.size
  let lp : LoopState → Option Code → Obj := fun st pe => .loop { state := st, pending := pe, fn := fn, tmps := a.tmps, params := ps, assign := assign, body := body, defers := N }
  let W1 : World := (w.alloc (.deferred (some []))).alloc (lp .ready none)
  have hN : w.heap.size = N := rfl
  have hsz1 : W1.heap.size = N + 2 := by simp [W1, N]
  have hb1 : Below w.heap.size w W1 := below_box2 w _ _
  have hl1 : W1.heap[N + 1]? = some (lp .ready none) := by
    have := (MapKept.heap_alloc (w.alloc (.deferred (some []))) (lp .ready none)).1
    rwa [World.size_alloc] at this
  have hd1 : W1.heap[N]? = some (.deferred (some [])) := (Below.heap_alloc _ _ _ (by simp [N])).trans (MapKept.heap_alloc w _).1
  have hE0 : ∀ r ∈ E0, r < N := fun r hr => hlow _ _ _ h0 r hr
  have hI1 : I (N :: (N + 1) :: E0) [] W1 := by
    have g1 := World.grownBy_alloc w (.deferred (some [])) none
    have g2 := World.grownBy_alloc (w.alloc (.deferred (some []))) (lp .ready none) none
    have s1 : I (N :: E0) [] (w.alloc (.deferred (some []))) := hI _ _ _ _ _ _ h0 g1 (fun _ e => by cases e) (fun r hr => by
      rcases List.mem_cons.1 hr with rfl | hr
      · exact .inr ⟨Nat.le_refl _, by simp [N]⟩
      · exact .inl hr)
    exact hI _ _ _ _ _ _ s1 g2 (fun _ e => by cases e) (fun r hr => by
      rcases List.mem_cons.1 hr with rfl | hr
      · exact .inl (by simp)
      · rcases List.mem_cons.1 hr with rfl | hr
        · exact .inr ⟨by simp [N], by rw [hsz1]; omega⟩
        · exact .inl (by simp [hr]))
  refine ⟨N + 1, [{ target := .collected N, args := #[] }], W1, { target := .fn (.func gf) lb, args := #[.func (.yield (N + 1)) #[] #[]] }, W1, gf, #[.func (.yield (N + 1)) #[] #[]] ++ lb, W1, ?_, ?_, ?_, ?_, ?_, ?_⟩
  · exact run_enterLoop_outer _ _ _ _ _
  · simp only [resolve, hg]
    simp [go_sem]
  · intro f' _
    trivial
  · simp [invoke, go_sem, eg]
  · intro h
    cases h
  · let J : List Nat → List α → World → Prop := fun E pre W => I (N :: (N + 1) :: E) pre W ∧ N ∉ E ∧ N + 1 ∉ E ∧ W.heap[N + 1]? = some (lp .ready none) ∧ W.heap[N]? = some (.deferred (some []))
    let Jx : List Nat → List α → World → Prop := fun E pre W => Ix (N :: (N + 1) :: E) pre W ∧ W.heap[N + 1]? = some (lp .done (some .ret)) ∧ W.heap[N]? = some (.deferred (some []))
    have hJ : Abide J := by
      rintro E E' s W W' row ⟨hi, n1, n2, hl, hd⟩ hg' hr hE
      have lt : N + 1 < W.heap.size := (Array.getElem?_eq_some_iff.1 hl).1
      have m1 : N ∉ E' := fun h => by
        rcases hE _ h with h | h
        · exact n1 h
        · omega
      have m2 : N + 1 ∉ E' := fun h => by
        rcases hE _ h with h | h
        · exact n2 h
        · omega
      refine ⟨hI _ _ _ _ _ _ hi hg' (fun r e => by simp [hr r e]) (fun r h => ?_), m1, m2, (hg'.block _ lt (fun e => n2 (hr _ e.symm))).trans hl, (hg'.block _ (by omega) (fun e => n1 (hr _ e.symm))).trans hd⟩
      rcases List.mem_cons.1 h with rfl | h
      · exact .inl (by simp)
      · rcases List.mem_cons.1 h with rfl | h
        · exact .inl (by simp)
        · rcases hE _ h with h | h
          · exact .inl (by simp [h])
          · exact .inr h
    have hY : YieldsG iv Ok (N + 1) D w0 all J Jx := by
      rintro E pre p y W ⟨hi, n1, n2, hl, hd⟩ hw hok hrest k
      have lt : N + 1 < W.heap.size := (Array.getElem?_eq_some_iff.1 hl).1
      have mem : N + 1 ∈ N :: (N + 1) :: E := by simp
      refine ⟨fn, _, assign, body, run_yield hl (by rw [hps, hiv]), RoundIn.mono ?_ fun _ _ h => h⟩
      have hround : RoundIn Fence.wide (m - 1) Tryz.prog (N + 1) fn ((ps.zip (iv p y)).foldl (fun t (p, v) => t.setIfInBounds p v) a.tmps) assign body W (fun e W' => (e = .returned (.bool true) ∧ J E (pre ++ [p]) W' ∧ KeptD D E W W') ∨ (e = .returned (.bool false) ∧ Jx E (pre ++ [p]) W')) := by
        refine roundIn_of_wpIn hfn (hassign _ p y W _ hok fun a' Wa hba hax => ?_)
        have hin : ∀ r ∈ N :: (N + 1) :: E, Wa.heap[r]? = W.heap[r]? := fun r hr => hba.block r (hlow _ _ _ hi r hr)
        have hla : Wa.heap[N + 1]? = some (lp .ready none) := (hin _ mem).trans hl
        have lta : N + 1 < Wa.heap.size := (Array.getElem?_eq_some_iff.1 hla).1
        refine ⟨_, run_beginRound hla rfl, ?_⟩
        let Wb : World := Wa.putObj (N + 1) (lp .busy none)
        have hlb : Wb.heap[N + 1]? = some (lp .busy none) := World.putObj_heap_same lta
        have hoa : ∀ r, r ≠ N + 1 → Wb.heap[r]? = Wa.heap[r]? := fun r hr => World.putObj_heap_other hr
        have hob : ∀ r ∈ N :: (N + 1) :: E, r ≠ N + 1 → Wb.heap[r]? = W.heap[r]? := fun r hr hne => (hoa r hne).trans (hin r hr)
        have ltW : N + 1 < W.heap.size := lt
        have hbb : ∀ b, D b → Wb.heap[b]? = W.heap[b]? := fun b hb => (hoa b (by have := hDl b hb; omega)).trans (hba.block b (by have := hDl b hb; omega))
        have ga : W.grownBy Wa none := ⟨hba.os, hba.tape, hba.output, hba.size, fun k hk _ => hba.block k hk⟩
        have hia := hI _ _ _ _ _ _ hi ga (fun _ e => by cases e) (fun _ h => .inl h)
        refine wpIn_mono (hbody (N + 1) (N :: (N + 1) :: E) pre p y a' Wb (hI.put _ hia mem) mem (hw.next hbb) hok hrest (hAx _ _ _ _ _ _ _ hax hla)) ?_
        rintro e a3 W3 hp
        have fin : ∀ {jump : Option Code} {st : LoopState}, KeptD D (N :: (N + 1) :: E) Wb W3 → (if jump.isNone then LoopState.ready else LoopState.done) = st →
            (Instr.endRound (N + 1) jump).run Tryz.prog W3 = .ok (.bool jump.isNone) (W3.putObj (N + 1) (lp st jump)) ∧ (W3.putObj (N + 1) (lp st jump)).heap[N + 1]? = some (lp st jump) ∧ (W3.putObj (N + 1) (lp st jump)).heap[N]? = some (.deferred (some [])) := by
          intro jump st hk hst
          have hl3 : W3.heap[N + 1]? = some (lp .busy none) := (hk.mine _ mem).trans hlb
          have hd3 : W3.heap[N]? = some (.deferred (some [])) := ((hk.mine _ (by simp)).trans (hob N (by simp) (by omega))).trans hd
          subst hst
          exact ⟨run_endRound jump hl3, World.putObj_heap_same (Array.getElem?_eq_some_iff.1 hl3).1, (World.putObj_heap_other (by omega)).trans hd3⟩
        cases e with
        | normal =>
          obtain ⟨hk, hi3⟩ := hp
          obtain ⟨h1, h2, h3⟩ := fin (jump := none) (st := .ready) hk rfl
          refine ⟨_, _, h1, .inl ⟨rfl, ⟨hI.put _ hi3 mem, n1, n2, h2, h3⟩, ?_⟩⟩
          refine ⟨?_, fun b hb => (World.putObj_heap_other (by have := hDl b hb; omega)).trans ((hk.keep b hb).trans (hbb b hb)), fun r hr => ?_⟩
          · have h8 := hk.size
            have h9 : Wb.heap.size = Wa.heap.size := by simp [Wb]
            have h7 := hba.size
            simp
            omega
          have hrn : r ≠ N + 1 := fun e => n2 (e ▸ hr)
          exact ((World.putObj_heap_other hrn).trans (hk.mine r (by simp [hr]))).trans (hob r (by simp [hr]) hrn)
        | ret =>
          obtain ⟨hk, hi3⟩ := hp
          obtain ⟨h1, h2, h3⟩ := fin (jump := some .ret) (st := .done) hk rfl
          exact ⟨_, _, h1, .inr ⟨rfl, hIx.put _ hi3 mem, h2, h3⟩⟩
        | exit id => exact hp.elim
        | goto t => exact hp.elim
        | panic ch => exact hp.elim
        | outgrown => exact hp.elim
      exact ⟨hround.1, fun c cs _ => hround.2 c cs (room_wide _)⟩
    refine (hseq W1 hb1 (m - 1) (N + 1) J Jx hJ hY ⟨hI1, fun h => by have := hE0 _ h; omega, fun h => by have := hE0 _ h; omega, hl1, hd1⟩).mono ?_
    rintro e W2 ⟨⟨v, rfl⟩, (⟨E, hi, n1, n2, hl, hd⟩ | ⟨E, pre, hi, hl, hd⟩)⟩
    · exact ⟨none, _, run_endLoop hl (by simp), hdone N _ _ (Nat.le_refl _) (hI.put _ hi (by simp)) (by simp) ((World.putObj_heap_other (by omega)).trans hd)⟩
    · exact ⟨some .ret, _, run_endLoop hl (by simp), hstop N _ pre _ (Nat.le_refl _) (hIx.put _ hi (by simp)) (by simp) ((World.putObj_heap_other (by omega)).trans hd)⟩
end
section
open Go.RowKit Go.Shelf
open Lx (Tk ofL)
abbrev ivB (x : List UInt8) (y : Int) : Array Value := #[.int .i64 y, .string (ofL x)]
/-- slices.Backward: the parameter is boxed; the function value captures the box. -/
theorem backward_any (a : Option Addr) (n c : Nat) (w : World) :
    Calls Tryz.prog 198 #[.slice a n c] w fun e w' => e = .returned (.func (.func 208) #[] #[.pointer (some ⟨w.heap.size, 0, none⟩)]) ∧ w' = w.alloc (.cells #[.slice a n c] 38) := by
  go_enter Tryz.func198, Tryz.ntmps198
  go_wp2
  go_ret
  exact ⟨rfl, rfl⟩
theorem backw_any (D : Nat → Prop) (w0 : World) (Bk : Nat) (vs : List (List UInt8)) (a : Option Addr) (c : Nat) (W : World) (hsame : SameD D w0 W) (_hdl : ∀ b, D b → b < W.heap.size) (hBk : D Bk) (hbx : w0.heap[Bk]? = some (.cells #[.slice a vs.length c] 38 (0, 0))) (hn : vs.length ≤ 2097155)
    (hrow : ∀ i (h : i < vs.length), ∃ g, a = some ⟨g, 0, none⟩ ∧ D g ∧ w0.cell? ⟨g, i, none⟩ = some (.string (ofL vs[i]))) :
    IterG ivB (fun _ _ => True) 208 #[.pointer (some ⟨Bk, 0, none⟩)] D w0 vs.reverse [] W := by
  intro m l J Jx hJ hY hj
  have hJ0 : Hid (∃ E pre, J E pre W ∧ SameD D w0 W ∧ pre ++ (vs.take vs.length).reverse = vs.reverse) := ⟨[], [], hj, hsame, by simp⟩
  have HB := hid hbx
  have HR := hid hrow
  have HY := hid hY
  obtain ⟨n, hnn⟩ : ∃ n, vs.length = n := ⟨_, rfl⟩
  rw [hnn] at hJ0 HB hn
  have x0 : W.cell? ⟨Bk, 0, none⟩ = some (.slice a n c) := cell_store (vs := [_]) ((hsame Bk hBk).trans HB.out) rfl
  have hj0 : J [] [] W := hj
  clear hbx hrow hY hsame _hdl
  refine callsIn_of_wp Tryz.func208 rfl trivial ?_ rfl
  simp only [Tryz.ntmps208, List.size_toArray, List.length_cons, List.length_nil, Nat.reduceAdd, Nat.reduceSub, Array.replicate_succ, Array.replicate_zero, List.push_toArray, List.append_toArray, List.nil_append, List.cons_append]
  gi_wp2
  gi_loopw [3] (fun i wr => ∃ k : Nat, k ≤ n ∧ i = .int .i64 ((k : Int) - 1) ∧ Hid (∃ E pre, J E pre wr ∧ SameD D w0 wr ∧ pre ++ (vs.take k).reverse = vs.reverse)) (fun i _ => (intOf i + 1).toNat)
  case atStart => exact ⟨n, Nat.le_refl _, by go_num, hJ0⟩
  case round =>
    obtain ⟨k, hk, rfl, HI⟩ := hrel
    obtain ⟨E, pre, hJp, hS, hpre⟩ := HI.out
    cases k with
    | zero =>
      gi_wp2
      go_end0
      refine ⟨⟨_, rfl⟩, .inl ⟨E, ?_⟩⟩
      simp only [List.take_zero, List.reverse_nil, List.append_nil] at hpre
      rw [← hpre]
      exact hJp
    | succ k =>
      have hkl : k < vs.length := by omega
      obtain ⟨g, rfl, hg, hcell⟩ := HR.out k hkl
      have y0 : wr.cell? ⟨Bk, 0, none⟩ = some (.slice (some ⟨g, 0, none⟩) n c) := cell_store (vs := [_]) ((hS Bk hBk).trans HB.out) rfl
      have y1 : wr.cell? ⟨g, k, none⟩ = some (.string (ofL vs[k])) := (World.cell?_of_block (a := ⟨g, k, none⟩) (hS g hg)).trans hcell
      have htk : (vs.take (k + 1)).reverse = vs[k] :: (vs.take k).reverse := by rw [List.take_succ_eq_append_getElem hkl, List.reverse_append]; rfl
      have e1 : ((k + 1 : Nat) : Int) - 1 = (k : Int) := by omega
      rw [htk] at hpre
      have hy := HY.out E pre vs[k] (k : Int) wr hJp hS trivial ⟨_, hpre⟩ (m - 1)
      obtain ⟨fn, tmps, assign, body, hyr, hR⟩ := hy
      obtain ⟨s, hs⟩ : ∃ s, vs[k] = s := ⟨_, rfl⟩
      rw [hs] at hyr hR y1 hpre
      rw [e1]
      clear hJp hcell htk
      gi_wp2_with fail
      refine ⟨fun h => (by cases h), ?_⟩
      refine hR.mono ?_
      clear hR
      rintro e W2 (⟨rfl, hj2, hk2⟩ | ⟨rfl, hx⟩)
      · have HN : Hid (∃ E pre, J E pre W2 ∧ SameD D w0 W2 ∧ pre ++ (vs.take k).reverse = vs.reverse) := ⟨E, pre ++ [s], hj2, hS.next hk2.keep, by simpa using hpre⟩
        clear hyr hj2 hk2 y0 y1 HI hS hpre
        gi_wp2
        exact ⟨⟨k, by omega, by go_num, HN⟩, by simp [intOf]⟩
      · gi_wp2
        refine bodyPost_ret (v := .tuple #[]) (by simp [results, Tryz.results208, go_sem]) rfl ?_
        exact ⟨⟨_, rfl⟩, .inr ⟨E, _, hx⟩⟩
end
section
open Go.RowKit Go.Shelf
open Lx (Tk ofL row_keep row_block row_slice)
/-- What a unary's reading does, for texts of fewer than n tokens. -/
def UnaryIH (E : Env) (c5 : Value) (n : Nat) : Prop :=
  ∀ (q : List Tk), q.length < n → ∀ (w : World) (bd : List (List UInt8)) (fr : List Tk) (kb : Nat) (fv : Value), PSt E w q bd fr kb fv c5 → bd.length + q.length ≤ E.N → Sg w → Calls Tryz.prog 130 #[.pointer (some ⟨E.B, 0, none⟩)] w (PieceP E w (PU bd q) bd fr fv c5)
theorem Sg.stay {E : Env} {W W' : World} {fv fv' : Value} (h : Sg W) (hs : Stay E W fv W' fv') (ho : ¬ Own E fv 0) : Sg W' ∧ ¬ Own E fv' 0 :=
  have hb := hs.blk 0 (Array.getElem?_eq_some_iff.1 h).1 ho
  ⟨hb.1.trans h, hb.2⟩
theorem PSt.own0 {E : Env} {W : World} {l : List Tk} {bd : List (List UInt8)} {fr : List Tk} {kb : Nat} {fv c5 : Value} (h : PSt E W l bd fr kb fv c5) (hn : 1 ≤ E.n0) : ¬ Own E fv 0 := fun ho => by have := h.ownlt ho; omega
theorem StayI.of {I : Nat} {E : Env} {W X Y : World} {fv fv' : Value} (h : Stay E W fv X fv') (ho : Only [I] X Y) : StayI I E W fv Y fv' :=
  ⟨ho.os.trans h.os, ho.tape.trans h.tape, ho.output.trans h.output, Nat.le_trans h.size ho.size, fun k hk hn hI => (ho.block k (Nat.lt_of_lt_of_le hk h.size) (by simpa using hI)).trans (h.blk k hk hn).1, fun k hk hn => (h.blk k hk hn).2⟩
theorem inner_any {E : Env} {c5 : Value} {n : Nat} (IH : UnaryIH E c5 n) {q : List Tk} (hq : q.length < n) {X : World} {bd : List (List UInt8)} {fr : List Tk} {kb : Nat} {fv : Value} (h : PSt E X q bd fr kb fv c5) (hbd : bd.length + q.length ≤ E.N) {b0 I : Nat} {pv : Value}
    (hb0 : X.heap[b0]? = some (.cells #[.pointer (some ⟨E.B, 0, none⟩)] 44 (0, 0))) (hI : X.heap[I]? = some (.cells #[pv] 53 (0, 0))) (hIo : ¬ Own E fv I) (hIn : E.n0 ≤ I) (hsg : Sg X) :
    Calls Tryz.prog 197 #[.pointer (some ⟨b0, 0, none⟩), .pointer (some ⟨I, 0, none⟩)] X fun e w' =>
      (e = .returned (.tuple #[]) ∧ ∃ fr' q' fv', (∃ f p, PU bd q (.ok f fr' q') ∧ w'.heap[I]? = some (.cells #[.pointer (some ⟨p, 0, none⟩)] 53 (0, 0)) ∧ PcP (Good E X.heap.size fv') w' p f) ∧ (∃ kb', PSt E w' q' bd (fr ++ fr') kb' fv' c5) ∧ StayI I E X fv w' fv') ∨
      (∃ x, e = .panicked x ∧ ∃ q' fv', x = misfit ∧ PU bd q (.no q') ∧ Bx w' E.B E.n E.n0 q' (.map (some E.mb)) (.map (some E.mm)) fv' c5 ∧ Stay E X fv w' fv') := by
  have hc := IH q hq X bd fr kb fv h hbd hsg
  have x0 : X.cell? ⟨b0, 0, none⟩ = some (.pointer (some ⟨E.B, 0, none⟩)) := cell_storeR (vs := [_]) hb0 rfl
  have HX := hid (And.intro hI (And.intro hIo hIn))
  clear IH h hI hIo hIn hb0 hsg
  go_enter Tryz.func197, Tryz.ntmps197
  go_wp2_with fail
  refine hc.mono ?_
  rintro e W1 (⟨f, p, fr', q', kb', fv', hp, rfl, p1, s1, y1⟩ | ⟨q', fv', hp, rfl, b1, y1⟩)
  · have hIl := (Array.getElem?_eq_some_iff.1 HX.out.1).1
    have hI1 := y1.blk I hIl HX.out.2.1
    have hI1c := hI1.1.trans HX.out.1
    have z0 : W1.cell? ⟨I, 0, none⟩ = some pv := cell_storeR (vs := [_]) hI1c rfl
    have z1 : W1.frozen? ⟨I, 0, none⟩ = false := frozen_cells hI1c
    have ho := only_cell (Below.refl _ W1) I 0 (.pointer (some ⟨p, 0, none⟩))
    have hI2 := heap_setCell_same W1 I 0 _ 53 (.pointer (some ⟨p, 0, none⟩)) hI1c
    have HF := hid (And.intro hp (And.intro (p1.keep (Q := Good E X.heap.size fv') ho.size fun k hk hl => ⟨hk, ho.block k hl (by simp; have := hk.1; omega)⟩) (And.intro (s1.write ho hI1.2 HX.out.2.2) (And.intro (StayI.of y1 ho) hI2))))
    clear hc hp p1 s1 y1 hI1 hI1c ho hI2
    go_wp2
    refine bodyPost_end (results_none rfl _ _ _) rfl ?_
    exact .inl ⟨rfl, fr', q', fv', ⟨f, p, HF.out.1, by simpa using HF.out.2.2.2.2, HF.out.2.1⟩, ⟨kb', HF.out.2.2.1⟩, HF.out.2.2.2.1⟩
  · have HF := hid (And.intro hp (And.intro b1 y1))
    clear hc hp b1 y1
    go_wp2
    exact ⟨rfl, .inr ⟨_, rfl, q', fv', rfl, HF.out.1, HF.out.2.1, HF.out.2.2⟩⟩
/-- A formula within quantifiers. -/
def foldQ (k : Int) (pre : List (List UInt8)) (f : Fm) : Fm := pre.foldl (fun f n => fQ k (ofL n) f) f
theorem foldQ_rev (k : Int) (vs : List (List UInt8)) (f : Fm) : foldQ k vs.reverse f = wrapQ k vs f := by
  unfold foldQ wrapQ
  rw [List.foldl_reverse]
theorem foldQ_snoc (k : Int) (pre : List (List UInt8)) (n : List UInt8) (f : Fm) : foldQ k (pre ++ [n]) f = fQ k (ofL n) (foldQ k pre f) := by simp [foldQ]
theorem foldQ_size {k : Int} (hk : k ≠ 1) (f : Fm) : ∀ pre : List (List UInt8), (foldQ k pre f).size = pre.length + f.size := by
  intro pre
  have h := wrapQ_size hk f pre.reverse
  rw [← foldQ_rev, List.reverse_reverse, List.length_reverse] at h
  exact h
/-- What the rounds of the range keep. -/
structure RQ (E : Env) (w : World) (fv : Value) (m2 I b1 : Nat) (k : Int) (f0 : Fm) (q : List Tk) (bd : List (List UInt8)) (fr : List Tk) (kb : Nat) (fv' c5 : Value) (L : List Nat) (pre : List (List UInt8)) (W : World) : Prop where
  cur : ∃ p, W.heap[I]? = some (.cells #[.pointer (some ⟨p, 0, none⟩)] 53 (0, 0)) ∧ PcP (fun j => Good E w.heap.size fv' j ∧ j ≠ I ∧ j ∉ L) W p (foldQ k pre f0)
  st : PSt E W q bd fr kb fv' c5
  stay : Stay E w fv W fv'
  els : ∀ r ∈ L, m2 ≤ r ∧ r < W.heap.size
  siz : m2 ≤ W.heap.size
  kd : W.heap[b1]? = some (.cells #[.int .i64 k] 3 (0, 0))
  low : w.heap.size ≤ I ∧ I < m2 ∧ b1 < m2 ∧ E.n0 ≤ w.heap.size ∧ b1 ≠ I
  new : ∀ j, m2 ≤ j → ¬ Own E fv' j
  Iown : ¬ Own E fv' I
theorem RQ.abide {E : Env} {w : World} {fv : Value} {m2 I b1 : Nat} {k : Int} {f0 : Fm} {q : List Tk} {bd : List (List UInt8)} {fr : List Tk} {kb : Nat} {fv' c5 : Value} : Abide (RQ E w fv m2 I b1 k f0 q bd fr kb fv' c5) := by
  rintro L L' pre W W' row h hg hr hL
  obtain ⟨⟨p, hI, hp⟩, st, stay, els, siz, kd, low, new, Io⟩ := h
  have hrow : ∀ g, row = some g → m2 ≤ g := fun g e => (els g (hr g e)).1
  have far : ∀ j, j < W.heap.size → j ∉ L → W'.heap[j]? = W.heap[j]? := fun j hj hn => hg.block j hj (fun e => hn (hr j e.symm))
  have old : ∀ j, j < m2 → j < W.heap.size → W'.heap[j]? = W.heap[j]? := fun j hj hl => far j hl (fun hm => by have := (els j hm).1; omega)
  refine ⟨⟨p, (old I low.2.1 (by omega)).trans hI, hp.keep hg.size fun j hj hl => ⟨⟨hj.1, hj.2.1, fun hm => ?_⟩, far j hl hj.2.2⟩⟩, st.grown hg (fun g e => ⟨new g (hrow g e), by have := hrow g e; omega⟩), stay.grown hg (fun g e => by have := hrow g e; omega), fun r hr' => ?_, Nat.le_trans siz hg.size, (old b1 low.2.2.1 (by omega)).trans kd, low, new, Io⟩
  · rcases hL j hm with h1 | h1
    · exact hj.2.2 h1
    · omega
  · rcases hL r hr' with h1 | h1
    · have := els r h1; have := hg.size; omega
    · omega
/-- A piece with one kid, wherever pieces may lie. -/
theorem pcompG1 {P : Nat → Prop} {X : World} (hnew : ∀ j, X.heap.size ≤ j → P j) {k : Int} (hk : k ≠ 1) {nm : ByteArray} {p g : Nat} {f : Fm} (hrow : X.cell? ⟨g, 0, none⟩ = some (.pointer (some ⟨p, 0, none⟩))) (hp : PcP P X p f) (hb : f.size ≤ 4611686018427387903) :
    Calls Tryz.prog 30 #[.int .i64 k, .string nm, .slice (some ⟨g, 0, none⟩) 1 1] X fun e w' => ∃ p, e = .returned (.pointer (some ⟨p, 0, none⟩)) ∧ PcP P w' p (.mk k nm t0 t0 [f]) ∧ Below X.heap.size X w' := by
  obtain ⟨sl, sr, sk, hz, hf⟩ := hp.at_
  have hd := fdepth_size f
  have hd1 := fdepth_pos f
  have key := compound_any (k := k) (nm := nm) (D := [⟨p, f, sl, sr, sk⟩]) (a := some ⟨g, 0, none⟩) (c := 1) (w := X) (P := P) hk (by simp) (by simp) (by decide) (fun i hi => by
    have : i = 0 := by simp at hi; omega
    subst this
    exact ⟨g, rfl, hrow⟩) (fun x hx => by simp at hx; subst hx; exact ⟨hz, hf⟩) (by show 1 + Fm.size.sizes [f] ≤ _; rw [Fm.size.sizes, Fm.size.sizes]; omega) (by show 1 + Fm.depth.depths [f] ≤ _; rw [Fm.depth.depths, Fm.depth.depths]; omega)
  refine key.mono ?_
  rintro e w' ⟨he, hpc, hbl⟩
  exact ⟨_, he, hpc.keep (Nat.le_refl _) (fun j hj hl => ⟨hj.elim id (hnew j), rfl⟩), hbl⟩
end
