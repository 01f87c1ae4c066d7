import Derived.Test.YtglphfhlpobgcaaGreatK
import Derived.Test.YtglphfhlpobgcaaGreatLG
import Derived.Test.YtglphfhlpobgcaaGreatL
namespace Go.Proofs.YtglphfhlpobgcaaGreat
set_option maxRecDepth 100000
set_option maxHeartbeats 4000000
open Go.RowKit Go.Shelf
def YieldsT (l : Nat) (w0 : World) (all : List T) (J Jx : List Nat -> List T -> World -> Prop) : Prop :=
 ∀ E pre n sl W, J E pre W -> Below w0.heap.size w0 W -> ArgsAt w0 sl n.args -> (∃ rest, pre ++ n :: rest = all) ->
  ∀ m, YieldAt Fence.wide m Tryz.prog l #[tval n sl] W fun e W' => (e = .returned (.bool true) ∧ J E (pre ++ [n]) W' ∧ Kept w0.heap.size E W W') ∨ (e = .returned (.bool false) ∧ Jx E (pre ++ [n]) W')
def IterT (gf : Nat) (lb : Array Value) (w0 : World) (all : List T) (W : World) : Prop :=
 ∀ (m l : Nat) (J Jx : List Nat -> List T -> World -> Prop), Abide J -> YieldsT l w0 all J Jx -> J [] [] W ->
  CallsIn Fence.wide m Tryz.prog gf (#[.func (.yield l) #[] #[]] ++ lb) W fun e W' => (∃ v, e = .returned v) ∧ ((∃ E, J E all W') ∨ (∃ E pre, Jx E pre W'))
theorem range_t {ps : Array Tmp} {assign body : Code} {Q : Exit -> Act -> World -> Prop} {a : Act} {w : World} {g : Operand} {gf : Nat} {lb : Array Value} {w0 : World} {all : List T} (m : Nat)
  (hg : a.eval g = .func (.func gf) #[] lb) (eg : ∀ args w, (callFunc gf args).run Tryz.prog w = .ok (.enter gf args) w) (hps : ps.size = 1)
  (hseq : ∀ W, Below w.heap.size w W -> IterT gf lb w0 all W)
  (I Ix : List Nat -> List T -> World -> Prop) (hI : Abide I) (hIx : Abide Ix) (h0 : I [] [] w) (hw0 : w0.heap.size <= w.heap.size) (hlow : ∀ E pre W, I E pre W -> ∀ r ∈ E, r < W.heap.size)
  (Ax : T -> Value -> Act -> World -> Prop) (hAx : ∀ p sl a' W l r o, Ax p sl a' W -> W.heap[l]? = some (.loop r) -> Ax p sl a' (W.putObj l o))
  (hassign : ∀ (l : Nat) (p : T) (sl : Value) (W : World) (K : Act -> World -> Prop), ArgsAt w0 sl p.args -> (∀ a' W', Below W.heap.size W W' -> Ax p sl a' W' -> K a' W') ->
   assign.wpIn (Fence.wide.inRound l) (m - 1) Tryz.prog (Exit.then K (fun _ _ _ => False)) { tmps := (ps.zip #[tval p sl]).foldl (fun t (p, v) => t.setIfInBounds p v) a.tmps, defers := [] } W)
  (hbody : ∀ (l : Nat) (E : List Nat) (pre : List T) (p : T) (sl : Value) (a' : Act) (W : World), I E pre W -> l ∈ E -> Below w0.heap.size w0 W -> ArgsAt w0 sl p.args -> (∃ rest, pre ++ p :: rest = all) -> Ax p sl a' W ->
   body.wpIn (Fence.wide.inRound l) (m - 1) Tryz.prog (endE w0.heap.size E I Ix (pre ++ [p]) W) a' W)
  (hdone : ∀ (D : Nat) (E : List Nat) (W : World), w.heap.size <= D -> I E all W -> D ∈ E -> W.heap[D]? = some (.deferred (some [])) -> Q .normal { a with defers := { target := .collected D, args := #[] } :: a.defers } W)
  (hstop : ∀ (D : Nat) (E : List Nat) (pre : List T) (W : World), w.heap.size <= D -> Ix E pre W -> D ∈ E -> W.heap[D]? = some (.deferred (some [])) -> Code.ret.wpIn Fence.wide m Tryz.prog Q { a with defers := { target := .collected D, args := #[] } :: a.defers } W) :
  (Code.rangeFunc g ps assign body).wpIn Fence.wide m Tryz.prog Q a w := by
 refine wpIn_rangeFunc fun fn hfn => ?_
 let N := w.heap.size
 let lp : LoopState -> Option Code -> Obj := fun st pe => .loop { state := st, pending := pe, fn := fn, tmps := a.tmps, params := ps, assign := assign, body := body, defers := N }
 let W1 : World := (w.alloc (.deferred (some []))).alloc (lp .ready none)
 have hN : w.heap.size = N := rfl
 have hsz1 : W1.heap.size = N + 2 := by simp [W1, N]
 have hb1 : Below w.heap.size w W1 := below_box2 w _ _
 have hl1 : W1.heap[N + 1]? = some (lp .ready none) := by
  have := (MapKept.heap_alloc (w.alloc (.deferred (some []))) (lp .ready none)).1
  rwa [World.size_alloc] at this
 have hd1 : W1.heap[N]? = some (.deferred (some [])) := (Below.heap_alloc _ _ _ (by simp [N])).trans (MapKept.heap_alloc w _).1
 have hI1 : I [N, N + 1] [] W1 := by
  have g1 := World.grownBy_alloc w (.deferred (some [])) none
  have g2 := World.grownBy_alloc (w.alloc (.deferred (some []))) (lp .ready none) none
  have s1 : I [N] [] (w.alloc (.deferred (some []))) := hI _ _ _ _ _ _ h0 g1 (fun _ e => by cases e) (fun r hr => .inr (by simp at hr ⊢; omega))
  exact hI _ _ _ _ _ _ s1 g2 (fun _ e => by cases e) (fun r hr => by simp at hr ⊢; omega)
 refine ⟨N + 1, [{ target := .collected N, args := #[] }], W1, { target := .fn (.func gf) lb, args := #[.func (.yield (N + 1)) #[] #[]] }, W1, gf, #[.func (.yield (N + 1)) #[] #[]] ++ lb, W1, ?_, ?_, ?_, ?_, ?_, ?_⟩
 ·exact run_enterLoop_outer _ _ _ _ _
 ·simp only [resolve, hg]
  simp [go_sem]
 ·intro f' _
  trivial
 ·simp [invoke, go_sem, eg]
 ·intro h
  cases h
 ·let J : List Nat -> List T -> World -> Prop := fun E pre W => I (N :: (N + 1) :: E) pre W ∧ N ∉ E ∧ N + 1 ∉ E ∧ W.heap[N + 1]? = some (lp .ready none) ∧ W.heap[N]? = some (.deferred (some []))
  let Jx : List Nat -> List T -> World -> Prop := fun E pre W => Ix (N :: (N + 1) :: E) pre W ∧ W.heap[N + 1]? = some (lp .done (some .ret)) ∧ W.heap[N]? = some (.deferred (some []))
  have hJ : Abide J := by
   rintro E E' s W W' row ⟨hi, n1, n2, hl, hd⟩ hg' hr hE
   have lt : N + 1 < W.heap.size := (Array.getElem?_eq_some_iff.1 hl).1
   have m1 : N ∉ E' := fun h => by
    rcases hE _ h with h | h
    ·exact n1 h
    ·omega
   have m2 : N + 1 ∉ E' := fun h => by
    rcases hE _ h with h | h
    ·exact n2 h
    ·omega
   refine ⟨hI _ _ _ _ _ _ hi hg' (fun r e => by simp [hr r e]) (fun r h => ?_), m1, m2, (hg'.block _ lt (fun e => n2 (hr _ e.symm))).trans hl, (hg'.block _ (by omega) (fun e => n1 (hr _ e.symm))).trans hd⟩
   rcases List.mem_cons.1 h with rfl | h
   ·exact .inl (by simp)
   ·rcases List.mem_cons.1 h with rfl | h
    ·exact .inl (by simp)
    ·rcases hE _ h with h | h
     ·exact .inl (by simp [h])
     ·exact .inr h
  have hY : YieldsT (N + 1) w0 all J Jx := by
   rintro E pre p sl W ⟨hi, n1, n2, hl, hd⟩ hw hsl hrest k
   have lt : N + 1 < W.heap.size := (Array.getElem?_eq_some_iff.1 hl).1
   have mem : N + 1 ∈ N :: (N + 1) :: E := by simp
   refine ⟨fn, _, assign, body, run_yield hl (by simp [hps]), RoundIn.mono ?_ fun _ _ h => h⟩
   have hround : RoundIn Fence.wide (m - 1) Tryz.prog (N + 1) fn ((ps.zip #[tval p sl]).foldl (fun t (p, v) => t.setIfInBounds p v) a.tmps) assign body W (fun e W' => (e = .returned (.bool true) ∧ J E (pre ++ [p]) W' ∧ Kept w0.heap.size E W W') ∨ (e = .returned (.bool false) ∧ Jx E (pre ++ [p]) W')) := by
    refine roundIn_of_wpIn hfn (hassign _ p sl W _ hsl fun a' Wa hba hax => ?_)
    have hin : ∀ r ∈ N :: (N + 1) :: E, Wa.heap[r]? = W.heap[r]? := fun r hr => hba.block r (hlow _ _ _ hi r hr)
    have hla : Wa.heap[N + 1]? = some (lp .ready none) := (hin _ mem).trans hl
    have lta : N + 1 < Wa.heap.size := (Array.getElem?_eq_some_iff.1 hla).1
    refine ⟨_, run_beginRound hla rfl, ?_⟩
    let Wb : World := Wa.putObj (N + 1) (lp .busy none)
    have hlb : Wb.heap[N + 1]? = some (lp .busy none) := World.putObj_heap_same lta
    have hoa : ∀ r, r ≠ N + 1 -> Wb.heap[r]? = Wa.heap[r]? := fun r hr => World.putObj_heap_other hr
    have hob : ∀ r ∈ N :: (N + 1) :: E, r ≠ N + 1 -> Wb.heap[r]? = W.heap[r]? := fun r hr hne => (hoa r hne).trans (hin r hr)
    have hba0 : Below w0.heap.size W Wa := hba.mono (by omega)
    have hbb : Below w0.heap.size W Wb := hba0.trans ⟨rfl, rfl, rfl, by simp [Wb], fun k hk => hoa k (by omega)⟩
    have ga : W.grownBy Wa none := ⟨hba.os, hba.tape, hba.output, hba.size, fun k hk _ => hba.block k hk⟩
    have hia := hI _ _ _ _ _ _ hi ga (fun _ e => by cases e) (fun _ h => .inl h)
    refine wpIn_mono (hbody (N + 1) (N :: (N + 1) :: E) pre p sl a' Wb (hI.put _ hia mem) mem (hw.trans hbb) hsl hrest (hAx _ _ _ _ _ _ _ hax hla)) ?_
    rintro e a3 W3 hp
    have fin : ∀ {jump : Option Code} {st : LoopState}, Kept w0.heap.size (N :: (N + 1) :: E) Wb W3 -> (if jump.isNone then LoopState.ready else LoopState.done) = st ->
      (Instr.endRound (N + 1) jump).run Tryz.prog W3 = .ok (.bool jump.isNone) (W3.putObj (N + 1) (lp st jump)) ∧ (W3.putObj (N + 1) (lp st jump)).heap[N + 1]? = some (lp st jump) ∧ (W3.putObj (N + 1) (lp st jump)).heap[N]? = some (.deferred (some [])) := by
     intro jump st hk hst
     have hl3 : W3.heap[N + 1]? = some (lp .busy none) := (hk.mine _ mem).trans hlb
     have hd3 : W3.heap[N]? = some (.deferred (some [])) := ((hk.mine _ (by simp)).trans (hob N (by simp) (by omega))).trans hd
     subst hst
     exact ⟨run_endRound jump hl3, World.putObj_heap_same (Array.getElem?_eq_some_iff.1 hl3).1, (World.putObj_heap_other (by omega)).trans hd3⟩
    cases e with
    | normal =>
     obtain ⟨hk, hi3⟩ := hp
     obtain ⟨h1, h2, h3⟩ := fin (jump := none) (st := .ready) hk rfl
     refine ⟨_, _, h1, .inl ⟨rfl, ⟨hI.put _ hi3 mem, n1, n2, h2, h3⟩, ?_⟩⟩
     refine ⟨hbb.trans (hk.below.trans ⟨rfl, rfl, rfl, by simp, fun k hk => World.putObj_heap_other (by omega)⟩), fun r hr => ?_⟩
     have hrn : r ≠ N + 1 := fun e => n2 (e ▸ hr)
     exact ((World.putObj_heap_other hrn).trans (hk.mine r (by simp [hr]))).trans (hob r (by simp [hr]) hrn)
    | ret =>
     obtain ⟨hk, hi3⟩ := hp
     obtain ⟨h1, h2, h3⟩ := fin (jump := some .ret) (st := .done) hk rfl
     exact ⟨_, _, h1, .inr ⟨rfl, hIx.put _ hi3 mem, h2, h3⟩⟩
    | exit id => exact hp.elim
    | goto t => exact hp.elim
    | panic ch => exact hp.elim
    | outgrown => exact hp.elim
   exact ⟨hround.1, fun c cs _ => hround.2 c cs (room_wide _)⟩
  refine (hseq W1 hb1 (m - 1) (N + 1) J Jx hJ hY ⟨hI1, by simp, by simp, hl1, hd1⟩).mono ?_
  rintro e W2 ⟨⟨v, rfl⟩, (⟨E, hi, n1, n2, hl, hd⟩ | ⟨E, pre, hi, hl, hd⟩)⟩
  ·exact ⟨none, _, run_endLoop hl (by simp), hdone N _ _ (Nat.le_refl _) (hI.put _ hi (by simp)) (by simp) ((World.putObj_heap_other (by omega)).trans hd)⟩
  ·exact ⟨some .ret, _, run_endLoop hl (by simp), hstop N _ pre _ (Nat.le_refl _) (hIx.put _ hi (by simp)) (by simp) ((World.putObj_heap_other (by omega)).trans hd)⟩
attribute [local go_sem] Oper.semAt_some
theorem own_newT {J : List Nat -> List T -> World -> Prop} (hJ : Abide J) {E : List Nat} {pre : List T} {W : World} (hj : J E pre W) (o : Obj) : J (W.heap.size :: E) pre (W.alloc o) :=
 hJ _ _ _ _ _ _ hj (World.grownBy_alloc W _ none) (fun _ e => by cases e) (fun r hr => by rcases List.mem_cons.1 hr with rfl | h; exact .inr ⟨Nat.le_refl _, by simp⟩; exact .inl h)
theorem sides_succ (l : List Lt) (k : Nat) (h : k < l.length) : sidesOf (l.take (k + 1)) = sidesOf (l.take k) ++ [l[k].l] ++ [l[k].r] := by
 unfold sidesOf
 rw [List.take_succ_eq_append_getElem h, List.flatMap_append]
 simp
theorem sides_split (l : List Lt) (k : Nat) (h : k < l.length) : sidesOf l = sidesOf (l.take k) ++ l[k].l :: l[k].r :: sidesOf (l.drop (k + 1)) := by
 have h3 : l = l.take k ++ l[k] :: l.drop (k + 1) := by rw [List.getElem_cons_drop, List.take_append_drop]
 conv => lhs; rw [h3]
 unfold sidesOf
 rw [List.flatMap_append, List.flatMap_cons]
 simp
theorem lit_kept {W W' : World} {g : Nat} {x : Lt} {a b : Value} (h : LitAt W g 0 x a b) (hk : W'.heap[g]? = W.heap[g]?) : W'.cell? ⟨g, 4, none⟩ = some (.int .i64 x.r.v) ∧ W'.cell? ⟨g, 5, none⟩ = some (.string x.r.fn) ∧ W'.cell? ⟨g, 6, none⟩ = some b := by
 have cb : ∀ o, W'.cell? ⟨g, o, none⟩ = W.cell? ⟨g, o, none⟩ := fun o => by simp [World.cell?, hk]
 exact ⟨(cb 4).trans h.c4, (cb 5).trans h.c5, (cb 6).trans h.c6⟩
theorem terms1_any (w0 : World) (Bc : Nat) (l : List Lt) (v : Value) (W : World) (hb : Below w0.heap.size w0 W) (hbc : W.cell? ⟨Bc, 0, none⟩ = some v) (hc : ClauseAt w0 v l) :
  IterT 143 #[.pointer (some ⟨Bc, 0, none⟩)] w0 (sidesOf l) W := by
 intro m ly J Jx hJ hY hj
 obtain ⟨a, c, rfl⟩ := hc.slice
 have hlen := hc.len
 have HC : Hid (ClauseAt w0 (.slice a l.length c) l) := hc
 have HY : Hid (YieldsT ly w0 (sidesOf l) J Jx) := hY
 have HJ0 : Hid (J [] [] W ∧ Below w0.heap.size w0 W) := ⟨hj, hb⟩
 clear hc hY hj hb
 refine callsIn_of_wp Tryz.func143 rfl trivial ?_ rfl
 simp only [Tryz.ntmps143, List.size_toArray, List.length_cons, List.length_nil, Nat.reduceAdd, Nat.reduceSub, Array.replicate_succ, Array.replicate_zero, List.push_toArray, List.append_toArray, List.nil_append, List.cons_append]
 gi_wp2
 gi_loopw [7] (fun i wr => ∃ (k : Nat) (E' : List Nat), k <= l.length ∧ i = .int .i64 k ∧ Hid (J E' (sidesOf (l.take k)) wr ∧ Below w0.heap.size w0 wr)) (fun i _ => l.length - (intOf i).toNat)
 case atStart => exact ⟨0, [], Nat.zero_le _, rfl, HJ0.out⟩
 case round =>
  obtain ⟨k, E', hk, rfl, hj3, hb3⟩ := hrel
  by_cases hlt : k < l.length
  ·obtain ⟨bb, o, sl, sr, e1, hX0⟩ := HC.out.nth hlt
   cases e1
   have hX := hX0.keep hb3
   have hL1 := lbox_at wr l[k] sl sr hX.al hX.ar
   have hj4 := own_newT hJ hj3 (lbox l[k] sl sr)
   have hb4 : Below w0.heap.size w0 (wr.alloc (lbox l[k] sl sr)) := hb3.trans ((below_box wr _).mono hb3.size)
   have hsp := sides_split l k hlt
   have hyL := HY.out _ _ l[k].l sl _ hj4 hb4 hX0.al ⟨l[k].r :: sidesOf (l.drop (k + 1)), hsp.symm⟩ (m - 1)
   have HS : Hid (sidesOf (l.take (k + 1)) = sidesOf (l.take k) ++ [l[k].l] ++ [l[k].r]) := sides_succ l k hlt
   have HSP : Hid (sidesOf l = sidesOf (l.take k) ++ l[k].l :: l[k].r :: sidesOf (l.drop (k + 1))) := hsp
   have HAR : Hid (ArgsAt w0 sr l[k].r.args) := hX0.ar
   have HL1 : Hid (LitAt (wr.alloc (lbox l[k] sl sr)) wr.heap.size 0 l[k] sl sr) := hL1
   have HB4 : Hid (Below w0.heap.size w0 (wr.alloc (lbox l[k] sl sr))) := hb4
   obtain ⟨x, hx⟩ : ∃ x, l[k] = x := ⟨_, rfl⟩
   simp only [hx] at hX hL1 hyL HS HSP HAR HL1 HB4
   obtain ⟨c0, c1, c2, c3, c4, c5, c6⟩ : wr.cell? ⟨bb, o + k * 7, none⟩ = some (.bool x.neg) ∧ wr.cell? ⟨bb, o + k * 7 + 1, none⟩ = some (.int .i64 x.l.v) ∧ wr.cell? ⟨bb, o + k * 7 + 2, none⟩ = some (.string x.l.fn) ∧ wr.cell? ⟨bb, o + k * 7 + 3, none⟩ = some sl ∧ wr.cell? ⟨bb, o + k * 7 + 4, none⟩ = some (.int .i64 x.r.v) ∧ wr.cell? ⟨bb, o + k * 7 + 5, none⟩ = some (.string x.r.fn) ∧ wr.cell? ⟨bb, o + k * 7 + 6, none⟩ = some sr := ⟨hX.c0, hX.c1, hX.c2, hX.c3, hX.c4, hX.c5, hX.c6⟩
   obtain ⟨k0, k1, k2, k3, k4, k5, k6⟩ := hL1.zero
   obtain ⟨la, lc, rfl, _⟩ := hX.al.slice
   obtain ⟨ra, rc, rfl, _⟩ := hX.ar.slice
   have i0' : (k : Int) < (l.length : Int) := by omega
   have i1' : (0 : Int) <= (k : Int) := by omega
   obtain ⟨fn, tmps, assign, body, hyr, hR⟩ := hyL
   clear hX hX0 hL1 hj3 hb3 hj4 hb4 hsp hx
   gi_wp2_with fail
   refine ⟨fun h => (by cases h), ?_⟩
   refine hR.mono ?_
   clear hR
   rintro e W2 (⟨rfl, hj2, hk2⟩ | ⟨rfl, hx⟩)
   ·obtain ⟨m4, m5, m6⟩ := lit_kept HL1.out (hk2.mine wr.heap.size (by simp))
    have hb2 := HB4.out.trans hk2.below
    have hyR := HY.out _ _ x.r (.slice ra x.r.args.length rc) _ hj2 hb2 HAR.out ⟨sidesOf (l.drop (k + 1)), by rw [HSP.out]; simp⟩ (m - 1)
    have HB2 : Hid (Below w0.heap.size w0 W2) := hb2
    obtain ⟨fn2, tmps2, assign2, body2, hyr2, hR2⟩ := hyR
    clear hyr hj2 hk2 hb2
    gi_wp2_with fail
    refine ⟨fun h => (by cases h), ?_⟩
    refine hR2.mono ?_
    clear hR2
    rintro e W3 (⟨rfl, hj3, hk3⟩ | ⟨rfl, hx⟩)
    ·have HN : Hid (J (wr.heap.size :: E') (sidesOf (l.take (k + 1))) W3 ∧ Below w0.heap.size w0 W3) := ⟨by rw [HS.out]; exact hj3, HB2.out.trans hk3.below⟩
     clear hj3 hk3 hyr2
     gi_wp2
     exact ⟨⟨k + 1, _, by omega, by go_num, HN.out⟩, by simp [intOf]; omega⟩
    ·gi_wp2
     refine bodyPost_ret (results_none rfl _ _ _) rfl ?_
     exact ⟨⟨_, rfl⟩, .inr ⟨_, _, hx⟩⟩
   ·gi_wp2
    refine ⟨fun f h => (by cases h), ?_⟩
    gi_wp2
    refine bodyPost_ret (results_none rfl _ _ _) rfl ?_
    exact ⟨⟨_, rfl⟩, .inr ⟨_, _, hx⟩⟩
  ·have hke : k = l.length := by omega
   subst hke
   rw [List.take_length] at hj3
   have HF : Hid (J E' (sidesOf l) wr) := hj3
   clear hj3 hb3
   gi_wp2
   refine bodyPost_end (results_none rfl _ _ _) rfl ?_
   exact ⟨⟨_, rfl⟩, .inl ⟨_, HF.out⟩⟩
theorem terms_any (a : Option Addr) (n c : Nat) (w : World) :
  Calls Tryz.prog 107 #[.slice a n c] w fun e w' => e = .returned (.func (.func 143) #[] #[.pointer (some ⟨w.heap.size, 0, none⟩)]) ∧ w' = w.alloc (.cells #[.slice a n c] 35) := by
 go_enter Tryz.func107, Tryz.ntmps107
 go_wp2
 go_ret
 exact ⟨rfl, rfl⟩
attribute [local go_sem] Oper.semAt_some
theorem tsize_any (t : T) (sl : Value) (w : World) (ha : ArgsAt w sl t.args) (hlen : ∀ q ∈ t.parts [], q.1.length <= 1048576) :
  Calls Tryz.prog 144 #[tval t sl] w fun e w' => e = .returned (.int .i64 (wrap64 t.size)) ∧ Below w.heap.size w w' := by
 refine (callsIn_wide (n := 9)).1 ?_
 obtain ⟨a, c, rfl, hc, hm⟩ := ha.slice
 obtain ⟨W0, hW0⟩ : ∃ W0, ((w.alloc (tbox t (.slice a t.args.length c))).alloc (.cells #[.int .i64 0] 3)).alloc (tbox t (.slice a t.args.length c)) = W0 := ⟨_, rfl⟩
 have hsz : W0.heap.size = w.heap.size + 3 := by rw [<- hW0]; simp
 have hbel : Below w.heap.size w W0 := by rw [<- hW0]; exact (((Below.refl _ _).alloc (Nat.le_refl _) _).alloc (by simp) _).alloc (by simp; omega) _
 have hB1 : Boxed W0 (w.heap.size + 1) 3 (.int .i64 0) := by
  have := (Boxed.new (w.alloc (tbox t (.slice a t.args.length c))) 3 (.int .i64 0)).alloc (tbox t (.slice a t.args.length c))
  rw [World.size_alloc] at this
  rw [<- hW0]
  exact this
 have hB2 : W0.heap[w.heap.size + 1 + 1]? = some (.cells [Value.int .i64 t.v, .string t.fn, .slice a t.args.length c].toArray 30 (0, 0)) := by
  have := (MapKept.heap_alloc ((w.alloc (tbox t (.slice a t.args.length c))).alloc (.cells #[.int .i64 0] 3)) (tbox t (.slice a t.args.length c))).1
  rw [World.size_alloc, World.size_alloc] at this
  rw [<- hW0]
  exact this
 have hR : Hid (wrap64 ((t.parts []).length : Int) = wrap64 t.size) := by show wrap64 _ = _; rw [size_parts]
 refine callsIn_of_wp_marks Tryz.func144 rfl trivial ?_ rfl
 simp only [Tryz.ntmps144, List.size_toArray, List.length_cons, List.length_nil, Nat.reduceAdd, Nat.reduceSub, Array.replicate_succ, Array.replicate_zero, List.push_toArray, List.append_toArray, List.nil_append, List.cons_append]
 gi_wp2_with (refine ⟨trivial, ?_⟩; gi_at_call 57; refine (callsIn_wide.2 (parts_any _ _ _)).mono ?_; rintro e w' ⟨rfl, rfl⟩)
 try rw [hW0]
 clear hW0
 refine range_own (n := W0.heap.size) (w0 := w) (all := t.parts []) (gf := 99) (lb := #[.pointer (some ⟨w.heap.size + 1 + 1, 0, none⟩)]) 9 rfl (enters_of Tryz.func99 (by kernel_rfl) rfl) rfl
  (fun W hW => iter_any w W0.heap.size (w.heap.size + 1 + 1) t _ W (hbel.trans (hW.mono (by omega))) (by omega) hW.size ((hW.block _ (by omega)).trans hB2) ha hlen)
  (Inv w (w.heap.size + 1) 3 (fun pre => .int .i64 (wrap64 pre.length))) (fun _ _ _ => False) (Inv.abide _ _ _ _) (fun _ _ _ _ _ _ h => h.elim)
  ⟨by simpa [wrap64] using hB1, by simp, by simp, hbel⟩ (by omega) (fun _ _ _ h r hr => (h.low r hr).2)
  (fun x y => { tmps := #[tval t (.slice a t.args.length c), .pointer (some ⟨w.heap.size, 0, none⟩), .int .i64 0, .pointer (some ⟨w.heap.size + 1, 0, none⟩), .agg #[.int .i64 t.v, .string t.fn, .slice a t.args.length c], .func (.func 99) #[] #[.pointer (some ⟨w.heap.size + 1 + 1, 0, none⟩)], x, y, undef, undef, undef], defers := [] }) ?assign ?body ?done ?stop
 case assign =>
  intro l x y W K hK
  gi_wp2
  simpa using hK
 case body =>
  rintro l E pre pl p pv sl W hi hl hw hpv hsl hrest
  have hc := hi.box.cell
  have hf := hi.box.frozen
  gi_wp2
  obtain ⟨h1, h2⟩ := hi.store (by omega) (.int .i64 (wrap64 (wrap64 (pre.length : Int) + 1)))
  exact ⟨h1, h2 _ (by rw [cnt_step])⟩
 case done =>
  rintro D E W hD hi hDE hK
  have hc := hi.box.cell
  gi_wp2
  refine ⟨by simp, .inl ⟨_, _, rfl, run_takeDeferred hK, ?_⟩⟩
  refine ⟨_, results_tmp rfl _ _ _, ?_, hi.bel.trans ⟨rfl, rfl, rfl, by simp, fun k hk => World.putObj_heap_other (by omega)⟩⟩
  show Ending.returned (Value.int .i64 (wrap64 ((t.parts []).length : Int))) = _
  exact ret_i64 hR
 case stop =>
  rintro D E pre W _ h
  exact h.elim
attribute [local go_sem] Oper.semAt_some
structure InvT (w : World) (B : Nat) (ty : TypeId) (val : List T -> Value) (E : List Nat) (pre : List T) (W : World) : Prop where
 box : Boxed W B ty (val pre)
 out : B ∉ E
 low : ∀ r ∈ E, w.heap.size <= r ∧ r < W.heap.size
 bel : Below w.heap.size w W
theorem InvT.abide (w : World) (B : Nat) (ty : TypeId) (val : List T -> Value) : Abide (InvT w B ty val) := by
 intro E E' s W W' row h hg hr hE
 have hlt := h.box.lt
 refine ⟨h.box.kept hg (fun e => h.out (hr B e.symm)), fun hb => ?_, fun r hr' => ?_, h.bel.trans ⟨hg.os, hg.tape, hg.output, hg.size, fun k hk => hg.block k (Nat.lt_of_lt_of_le hk h.bel.size) (fun e => by have := h.low k (hr k e.symm); omega)⟩⟩
 ·rcases hE B hb with hb | hb
  ·exact h.out hb
  ·omega
 ·rcases hE r hr' with h' | h'
  ·exact ⟨(h.low r h').1, Nat.lt_of_lt_of_le (h.low r h').2 hg.size⟩
  ·exact ⟨Nat.le_trans h.bel.size h'.1, h'.2⟩
theorem InvT.grow {w : World} {B : Nat} {ty : TypeId} {val : List T -> Value} {E : List Nat} {pre : List T} {W W' : World} (h : InvT w B ty val E pre W) (hb : Below W.heap.size W W') : Kept w.heap.size E W W' ∧ InvT w B ty val E pre W' :=
 ⟨⟨hb.mono h.bel.size, fun r hr => hb.block r (h.low r hr).2⟩, (hb.block B h.box.lt).trans h.box, h.out, fun r hr => ⟨(h.low r hr).1, Nat.lt_of_lt_of_le (h.low r hr).2 hb.size⟩, h.bel.trans (hb.mono h.bel.size)⟩
theorem InvT.store {w : World} {B : Nat} {ty : TypeId} {val : List T -> Value} {E : List Nat} {pre : List T} {W : World} (h : InvT w B ty val E pre W) (hB : w.heap.size <= B) (val' : List T -> Value) (s : List T) : Kept w.heap.size E W (W.setCell ⟨B, 0, none⟩ (val' s)) ∧ InvT w B ty val' E s (W.setCell ⟨B, 0, none⟩ (val' s)) := by
 have hb : Below w.heap.size W (W.setCell ⟨B, 0, none⟩ (val' s)) := (Below.refl _ _).setCell (p := ⟨B, 0, none⟩) hB _
 have g := grownBy_setCell' W B (val' s)
 refine ⟨⟨hb, fun r hr => ?_⟩, ⟨h.box.set (val' s), h.out, fun r hr => ⟨(h.low r hr).1, Nat.lt_of_lt_of_le (h.low r hr).2 g.size⟩, h.bel.trans hb⟩⟩
 by_cases hlt : r < W.heap.size
 ·exact g.block r hlt (fun e => h.out (Option.some.inj e ▸ hr))
 ·have h2 : (W.setCell ⟨B, 0, none⟩ (val' s)).heap.size = W.heap.size := by simp
  rw [Array.getElem?_eq_none (by omega), Array.getElem?_eq_none (by omega)]
theorem wrapK (x : Int) : IntKind.i64.wrap x = wrap64 x := by
 first | rfl | (rw [IntKind.wrap_i64]; simp only [wrap64]; done) | (rw [IntKind.wrap_i64]; simp only [wrap64]; omega)
def sumT (l : List T) : Int := (l.map T.size).sum
theorem sumT_snoc (l : List T) (t : T) : wrap64 (wrap64 (sumT l) + wrap64 t.size) = wrap64 (sumT (l ++ [t])) := by
 rw [wrap64_add]
 unfold sumT
 rw [List.map_append, List.sum_append]
 simp
theorem sumT_sides (l : List Lt) : sumT (sidesOf l) = csize l := by
 induction l with
 | nil => rfl
 | cons x r ih =>
  have e : sidesOf (x :: r) = x.l :: x.r :: sidesOf r := rfl
  have e2 : csize (x :: r) = x.l.size + x.r.size + csize r := by simp [csize]
  rw [e, e2, <- ih]
  simp [sumT]
  omega
theorem lsize_any (l : List Lt) (v : Value) (w : World) (hc : ClauseAt w v l) (hsh : ∀ t ∈ sidesOf l, Short t) :
  Calls Tryz.prog 108 #[v] w fun e w' => e = .returned (.int .i64 (wrap64 (csize l))) ∧ Below w.heap.size w w' := by
 refine (callsIn_wide (n := 9)).1 ?_
 obtain ⟨a, c, rfl⟩ := hc.slice
 obtain ⟨W0, hW0⟩ : ∃ W0, (w.alloc (.cells #[.int .i64 0] 3)).alloc (.cells #[.slice a l.length c] 35) = W0 := ⟨_, rfl⟩
 have hsz : W0.heap.size = w.heap.size + 2 := by rw [<- hW0]; simp
 have hbel : Below w.heap.size w W0 := by rw [<- hW0]; exact below_box2 w _ _
 have hB0 : Boxed W0 w.heap.size 3 (.int .i64 0) := by
  have := (Boxed.new w 3 (.int .i64 0)).alloc (.cells #[.slice a l.length c] 35)
  rw [<- hW0]
  exact this
 have hB1 : W0.cell? ⟨w.heap.size + 1, 0, none⟩ = some (.slice a l.length c) := by
  have := (MapKept.heap_alloc (w.alloc (.cells #[.int .i64 0] 3)) (.cells #[.slice a l.length c] 35)).1
  rw [World.size_alloc] at this
  rw [<- hW0]
  simp only [World.cell?]
  rw [this]
  rfl
 have hR : Hid (wrap64 (sumT (sidesOf l)) = wrap64 (csize l)) := by show _ = _; rw [sumT_sides]
 refine callsIn_of_wp_marks Tryz.func108 rfl trivial ?_ rfl
 simp only [Tryz.ntmps108, List.size_toArray, List.length_cons, List.length_nil, Nat.reduceAdd, Nat.reduceSub, Array.replicate_succ, Array.replicate_zero, List.push_toArray, List.append_toArray, List.nil_append, List.cons_append]
 gi_wp2_with (refine ⟨trivial, ?_⟩; gi_at_call 107; refine (callsIn_wide.2 (terms_any _ _ _ _)).mono ?_; rintro e w' ⟨rfl, rfl⟩)
 try simp only [World.size_alloc]
 try rw [hW0]
 clear hW0
 refine range_t (w0 := w) (all := sidesOf l) (gf := 143) (lb := #[.pointer (some ⟨w.heap.size + 1, 0, none⟩)]) 9 rfl (enters_of Tryz.func143 (by kernel_rfl) rfl) rfl
  (fun W hW => terms1_any w (w.heap.size + 1) l _ W (hbel.trans (hW.mono (by omega))) (kc hW (by omega) hB1) hc)
  (InvT w w.heap.size 3 (fun pre => .int .i64 (wrap64 (sumT pre)))) (fun _ _ _ => False) (InvT.abide _ _ _ _) (fun _ _ _ _ _ _ h => h.elim)
  ⟨by simpa [wrap64, sumT] using hB0, by simp, by simp, hbel⟩ (by omega) (fun _ _ _ h r hr => (h.low r hr).2)
  (fun p sl a' W => ∃ Bx, W.heap[Bx]? = some (.cells [Value.int .i64 p.v, .string p.fn, sl].toArray 30 (0, 0)) ∧ a' = { tmps := #[.slice a l.length c, undef, .int .i64 0, .pointer (some ⟨w.heap.size, 0, none⟩), .pointer (some ⟨Bx, 0, none⟩), .slice a l.length c, .func (.func 143) #[] #[.pointer (some ⟨w.heap.size + 1, 0, none⟩)], tval p sl, undef, undef, undef, undef, undef], defers := [] })
  ?hax ?assign ?body ?done ?stop
 case hax =>
  rintro p sl a' W l r o ⟨Bx, hbx, rfl⟩ hl
  refine ⟨Bx, (World.putObj_heap_other ?_).trans hbx, rfl⟩
  rintro rfl
  rw [hbx] at hl
  cases hl
 case assign =>
  rintro lx p sl W K hsl hK
  obtain ⟨sa, sc, rfl, _, _⟩ := hsl.slice
  gi_wp2
  refine hK _ _ (below_box W _) ⟨W.heap.size, (MapKept.heap_alloc W _).1, ?_⟩
  simp
 case body =>
  rintro lx E pre p sl a' W hi hl hw hsl ⟨rest, hrest⟩ ⟨Bx, hbx, rfl⟩
  have hps : Short p := hsh p (by rw [<- hrest]; simp)
  have haw := ArgsAt.keep hw (Nat.le_refl _) hsl
  have hdr : Below W.heap.size W W.drew := (Below.refl _ W).drew
  have hcl := tsize_any p sl W.drew (ArgsAt.keep hdr (Nat.le_refl _) haw) hps
  have hcell := hi.box.cell
  have x0 : W.cell? ⟨Bx, 0, none⟩ = some (.int .i64 p.v) := by rw [cell_of_row _ _ _ _ 30 (0, 0) hbx]; rfl
  have x1 : W.cell? ⟨Bx, 1, none⟩ = some (.string p.fn) := by rw [cell_of_row _ _ _ _ 30 (0, 0) hbx]; rfl
  have x2 : W.cell? ⟨Bx, 2, none⟩ = some sl := by rw [cell_of_row _ _ _ _ 30 (0, 0) hbx]; rfl
  have fin : ∀ w1, Below W.drew.heap.size W.drew w1 -> (w1.cell? ⟨w.heap.size, 0, none⟩ = some (.int .i64 (wrap64 (sumT pre))) ∧ w1.frozen? ⟨w.heap.size, 0, none⟩ = false) ∧ Kept w.heap.size E W (w1.setCell ⟨w.heap.size, 0, none⟩ (.int .i64 (wrap64 (wrap64 (sumT pre) + wrap64 p.size)))) ∧ InvT w w.heap.size 3 (fun pre => .int .i64 (wrap64 (sumT pre))) E (pre ++ [p]) (w1.setCell ⟨w.heap.size, 0, none⟩ (.int .i64 (wrap64 (wrap64 (sumT pre) + wrap64 p.size)))) := by
   intro w1 hb1
   obtain ⟨k1, h1⟩ := hi.grow (hdr.trans hb1)
   obtain ⟨k2, h2⟩ := h1.store (Nat.le_refl _) (fun pre => .int .i64 (wrap64 (sumT pre))) (pre ++ [p])
   rw [sumT_snoc]
   exact ⟨⟨h1.box.cell, h1.box.frozen⟩, k1.trans k2, h2⟩
  have HFN : Hid (∀ w1, Below W.drew.heap.size W.drew w1 -> (w1.cell? ⟨w.heap.size, 0, none⟩ = some (.int .i64 (wrap64 (sumT pre))) ∧ w1.frozen? ⟨w.heap.size, 0, none⟩ = false) ∧ Kept w.heap.size E W (w1.setCell ⟨w.heap.size, 0, none⟩ (.int .i64 (wrap64 (wrap64 (sumT pre) + wrap64 p.size)))) ∧ InvT w w.heap.size 3 (fun pre => .int .i64 (wrap64 (sumT pre))) E (pre ++ [p]) (w1.setCell ⟨w.heap.size, 0, none⟩ (.int .i64 (wrap64 (wrap64 (sumT pre) + wrap64 p.size))))) := fin
  obtain ⟨sa, sc, rfl, _, _⟩ := hsl.slice
  clear fin hi haw hw hrest hps hbx
  gi_wp2
  refine wpIn_region_any (by kernel_rfl) ?_
  try (change wpAnyIn _ _ _ _ _ _ _ _ _ (World.drew _))
  refine wpAnyIn_ready (rs := [0, 1]) (by kernel_rfl) (by simp) ?_
  refine AllReadyIn.cons rfl (fun K hK => ?_) ?_
  ·go_simp
   refine hK _ _ ?_
   clear hK K
   refine wpAnyIn_ready (rs := [1]) (by kernel_rfl) (by simp) ?_
   refine AllReadyIn.cons rfl (fun K hK => ?_) AllReadyIn.nil
   go_simp
   refine hK _ _ ?_
   clear hK K
   refine wpAnyIn_ready (rs := [2]) (by kernel_rfl) (by simp) ?_
   refine AllReadyIn.cons rfl (fun K hK => ?_) AllReadyIn.nil
   go_simp
   refine ⟨trivial, (CallsIn.inRound lx (callsIn_wide.2 hcl)).mono ?_⟩
   rintro e w1 ⟨rfl, hb1⟩
   obtain ⟨⟨f1, f2⟩, kk, ii⟩ := HFN.out w1 hb1
   refine hK _ _ ?_
   clear hK K
   refine wpAnyIn_ready (rs := [3]) (by kernel_rfl) (by simp) ?_
   refine AllReadyIn.cons rfl (fun K hK => ?_) AllReadyIn.nil
   go_simp
   refine hK _ _ ?_
   clear hK K
   refine wpAnyIn_ready (rs := [4]) (by kernel_rfl) (by simp) ?_
   refine AllReadyIn.cons rfl (fun K hK => ?_) AllReadyIn.nil
   go_simp
   refine hK _ _ ?_
   clear hK K
   refine wpAnyIn_done (by kernel_rfl) ?_ _
   rw [wrapK]
   exact ⟨kk, ii⟩
  refine AllReadyIn.cons rfl (fun K hK => ?_) AllReadyIn.nil
  go_simp
  refine hK _ _ ?_
  clear hK K
  refine wpAnyIn_ready (rs := [0, 2]) (by kernel_rfl) (by simp) ?_
  refine AllReadyIn.cons rfl (fun K hK => ?_) ?_
  ·go_simp
   refine hK _ _ ?_
   clear hK K
   refine wpAnyIn_ready (rs := [2]) (by kernel_rfl) (by simp) ?_
   refine AllReadyIn.cons rfl (fun K hK => ?_) AllReadyIn.nil
   go_simp
   refine ⟨trivial, (CallsIn.inRound lx (callsIn_wide.2 hcl)).mono ?_⟩
   rintro e w1 ⟨rfl, hb1⟩
   obtain ⟨⟨f1, f2⟩, kk, ii⟩ := HFN.out w1 hb1
   refine hK _ _ ?_
   clear hK K
   refine wpAnyIn_ready (rs := [3]) (by kernel_rfl) (by simp) ?_
   refine AllReadyIn.cons rfl (fun K hK => ?_) AllReadyIn.nil
   go_simp
   refine hK _ _ ?_
   clear hK K
   refine wpAnyIn_ready (rs := [4]) (by kernel_rfl) (by simp) ?_
   refine AllReadyIn.cons rfl (fun K hK => ?_) AllReadyIn.nil
   go_simp
   refine hK _ _ ?_
   clear hK K
   refine wpAnyIn_done (by kernel_rfl) ?_ _
   rw [wrapK]
   exact ⟨kk, ii⟩
  refine AllReadyIn.cons rfl (fun K hK => ?_) AllReadyIn.nil
  go_simp
  refine ⟨trivial, (CallsIn.inRound lx (callsIn_wide.2 hcl)).mono ?_⟩
  rintro e w1 ⟨rfl, hb1⟩
  obtain ⟨⟨f1, f2⟩, kk, ii⟩ := HFN.out w1 hb1
  refine hK _ _ ?_
  clear hK K
  refine wpAnyIn_ready (rs := [0]) (by kernel_rfl) (by simp) ?_
  refine AllReadyIn.cons rfl (fun K hK => ?_) AllReadyIn.nil
  go_simp
  refine hK _ _ ?_
  clear hK K
  refine wpAnyIn_ready (rs := [3]) (by kernel_rfl) (by simp) ?_
  refine AllReadyIn.cons rfl (fun K hK => ?_) AllReadyIn.nil
  go_simp
  refine hK _ _ ?_
  clear hK K
  refine wpAnyIn_ready (rs := [4]) (by kernel_rfl) (by simp) ?_
  refine AllReadyIn.cons rfl (fun K hK => ?_) AllReadyIn.nil
  go_simp
  refine hK _ _ ?_
  clear hK K
  refine wpAnyIn_done (by kernel_rfl) ?_ _
  rw [wrapK]
  exact ⟨kk, ii⟩
 case done =>
  rintro D E W hD hi hDE hK
  have hcd := hi.box.cell
  gi_wp2
  refine ⟨by simp, .inl ⟨_, _, rfl, run_takeDeferred hK, ?_⟩⟩
  refine ⟨_, results_tmp rfl _ _ _, ?_, hi.bel.trans ⟨rfl, rfl, rfl, by simp, fun k hk => World.putObj_heap_other (by omega)⟩⟩
  show Ending.returned (Value.int .i64 (wrap64 (sumT (sidesOf l)))) = _
  exact ret_i64 hR
 case stop =>
  rintro D E pre W _ h
  exact h.elim
attribute [local go_sem] Oper.semAt_some
theorem fe_app {pre : List T} (h : ∀ t ∈ pre, t.rightW = 0) (p : T) (rest : List T) (hp : p.rightW ≠ 0) : lfe (pre ++ p :: rest) = p.rightW := by
 induction pre with
 | nil => simp [lfe, hp]
 | cons x r ih =>
  have hx := h x (by simp)
  simp only [List.cons_append, lfe, hx, if_true]
  exact ih (fun t ht => h t (by simp [ht]))
theorem lright_any (l : List Lt) (v : Value) (w : World) (hc : ClauseAt w v l) (hsh : ∀ t ∈ sidesOf l, Short t) :
  Calls Tryz.prog 69 #[v] w fun e w' => e = .returned (.int .i64 (crightW l)) ∧ Below w.heap.size w w' := by
 have hlen := hc.len
 by_cases h60 : 60 < l.length
 ·have HE : Hid (crightW l = 3) := by show _ = _; unfold crightW; rw [if_pos h60]
  obtain ⟨a, c, rfl⟩ := hc.slice
  have hB0 := Boxed.new w 50 (.int .i64 0)
  have z0 := hB0.cell
  have y0 := hB0.frozen
  have HB : Hid (Below w.heap.size w ((w.alloc (.cells #[.int .i64 0] 50)).setCell ⟨w.heap.size, 0, none⟩ (.int .i64 3))) := (below_box w _).setCell (p := ⟨w.heap.size, 0, none⟩) (Nat.le_refl _) _
  have hz3 := (hB0.set (.int .i64 3)).cell
  clear hc hsh hB0
  go_enter Tryz.func69, Tryz.ntmps69
  go_wp2
  all_goals first | (exfalso; omega) | skip
  refine bodyPost_ret (v := .int .i64 3) (by simp [results, Tryz.results69, go_sem, *]) rfl ⟨by rw [HE.out], ?_⟩
  first | exact HB.out | exact below_box w _
 ·have HE : Hid (crightW l = if lfe (sidesOf l) ≠ 0 then lfe (sidesOf l) else if 4000 < wrap64 (csize l) then 3 else 0) := by show _ = _; unfold crightW; rw [if_neg h60]
  refine (callsIn_wide (n := 9)).1 ?_
  obtain ⟨a, c, rfl⟩ := hc.slice
  obtain ⟨W0, hW0⟩ : ∃ W0, (w.alloc (.cells #[.int .i64 0] 50)).alloc (.cells #[.slice a l.length c] 35) = W0 := ⟨_, rfl⟩
  have hsz : W0.heap.size = w.heap.size + 2 := by rw [<- hW0]; simp
  have hbel : Below w.heap.size w W0 := by rw [<- hW0]; exact below_box2 w _ _
  have hB0 : Boxed W0 w.heap.size 50 (.int .i64 0) := by
   have := (Boxed.new w 50 (.int .i64 0)).alloc (.cells #[.slice a l.length c] 35)
   rw [<- hW0]
   exact this
  have hB1 : W0.cell? ⟨w.heap.size + 1, 0, none⟩ = some (.slice a l.length c) := by
   have := (MapKept.heap_alloc (w.alloc (.cells #[.int .i64 0] 50)) (.cells #[.slice a l.length c] 35)).1
   rw [World.size_alloc] at this
   rw [<- hW0]
   simp only [World.cell?]
   rw [this]
   rfl
  refine callsIn_of_wp_marks Tryz.func69 rfl trivial ?_ rfl
  simp only [Tryz.ntmps69, List.size_toArray, List.length_cons, List.length_nil, Nat.reduceAdd, Nat.reduceSub, Array.replicate_succ, Array.replicate_zero, List.push_toArray, List.append_toArray, List.nil_append, List.cons_append]
  have hle : ¬ ((l.length : Int) > 60) := by omega
  gi_wp2_with (refine ⟨trivial, ?_⟩; gi_at_call 107; refine (callsIn_wide.2 (terms_any _ _ _ _)).mono ?_; rintro e w' ⟨rfl, rfl⟩)
  all_goals first | (exfalso; omega) | skip
  try simp only [World.size_alloc]
  try rw [hW0]
  clear hW0
  refine range_t (w0 := w) (all := sidesOf l) (gf := 143) (lb := #[.pointer (some ⟨w.heap.size + 1, 0, none⟩)]) 9 rfl (enters_of Tryz.func143 (by kernel_rfl) rfl) rfl
   (fun W hW => terms1_any w (w.heap.size + 1) l _ W (hbel.trans (hW.mono (by omega))) (kc hW (by omega) hB1) hc)
   (fun E pre W => InvT w w.heap.size 50 (fun _ => .int .i64 0) E pre W ∧ ∀ t ∈ pre, t.rightW = 0) (fun E pre W => InvT w w.heap.size 50 (fun _ => .int .i64 (lfe (sidesOf l))) E pre W ∧ lfe (sidesOf l) ≠ 0) ((InvT.abide _ _ _ _).and (Abide.pure _)) ((InvT.abide _ _ _ _).and (Abide.pure _))
   ⟨⟨hB0, by simp, by simp, hbel⟩, by simp⟩ (by omega) (fun _ _ _ h r hr => (h.1.low r hr).2)
   (fun p sl a' W => ∃ Bx, W.heap[Bx]? = some (.cells [Value.int .i64 p.v, .string p.fn, sl].toArray 30 (0, 0)) ∧ a' = { tmps := #[.slice a l.length c, undef, .pointer (some ⟨w.heap.size, 0, none⟩), .pointer (some ⟨Bx, 0, none⟩), undef, .slice a l.length c, .int .i64 l.length, .bool false, .slice a l.length c, .func (.func 143) #[] #[.pointer (some ⟨w.heap.size + 1, 0, none⟩)], tval p sl, undef, undef, undef, undef, undef, undef, undef, undef], defers := [] })
   ?hax ?assign ?body ?done ?stop
  case hax =>
   rintro p sl a' W l r o ⟨Bx, hbx, rfl⟩ hl
   refine ⟨Bx, (World.putObj_heap_other ?_).trans hbx, rfl⟩
   rintro rfl
   rw [hbx] at hl
   cases hl
  case assign =>
   rintro lx p sl W K hsl hK
   obtain ⟨sa, sc, rfl, _, _⟩ := hsl.slice
   gi_wp2
   refine hK _ _ (below_box W _) ⟨W.heap.size, (MapKept.heap_alloc W _).1, ?_⟩
   simp
  case body =>
   rintro lx E pre p sl a' W ⟨hi, hall⟩ hl hw hsl ⟨rest, hrest⟩ ⟨Bx, hbx, rfl⟩
   have hps : Short p := hsh p (by rw [<- hrest]; simp)
   have haw := ArgsAt.keep hw (Nat.le_refl _) hsl
   have hcl := tright_any p sl W haw hps
   have x0 : W.cell? ⟨Bx, 0, none⟩ = some (.int .i64 p.v) := by rw [cell_of_row _ _ _ _ 30 (0, 0) hbx]; rfl
   have x1 : W.cell? ⟨Bx, 1, none⟩ = some (.string p.fn) := by rw [cell_of_row _ _ _ _ 30 (0, 0) hbx]; rfl
   have x2 : W.cell? ⟨Bx, 2, none⟩ = some sl := by rw [cell_of_row _ _ _ _ 30 (0, 0) hbx]; rfl
   obtain ⟨sa, sc, rfl, _, _⟩ := hsl.slice
   have HI : Hid (InvT w w.heap.size 50 (fun _ => .int .i64 0) E pre W) := hi
   by_cases hp : p.rightW = 0
   ·have hpb : (p.rightW != 0) = false := by rw [bne_eq_false_iff_eq]; exact hp
    have HA : Hid (∀ t ∈ pre ++ [p], t.rightW = 0) := fun t ht => by
     rcases List.mem_append.1 ht with h | h
     ·exact hall t h
     ·simp at h; rw [h]; exact hp
    clear hp hi hall hw haw hrest hps hbx hsh hc hB0 hB1 hbel HE
    gi_wp2_with (refine ⟨trivial, ?_⟩; gi_at_call 30; refine (CallsIn.inRound lx (callsIn_wide.2 hcl)).mono ?_; rintro e w1 ⟨rfl, hb1⟩)
    obtain ⟨k1, h1⟩ := HI.out.grow hb1
    exact ⟨k1, ⟨h1.box, h1.out, h1.low, h1.bel⟩, HA.out⟩
   ·have hpb : (p.rightW != 0) = true := by rw [bne_iff_ne]; exact hp
    have HF : Hid (lfe (sidesOf l) = p.rightW ∧ p.rightW ≠ 0) := ⟨by rw [<- hrest]; exact fe_app hall p rest hp, hp⟩
    clear hp hi hall hw haw hrest hps hbx hsh hc hB0 hB1 hbel HE
    gi_wp2_with (refine ⟨trivial, ?_⟩; gi_at_call 30; refine (CallsIn.inRound lx (callsIn_wide.2 hcl)).mono ?_; rintro e w1 ⟨rfl, hb1⟩; obtain ⟨k1, h1⟩ := HI.out.grow hb1; have c1 := h1.box.cell; have f1 := h1.box.frozen)
    obtain ⟨k2, h2⟩ := h1.store (Nat.le_refl _) (fun _ => .int .i64 p.rightW) (pre ++ [p])
    rw [HF.out.1]
    exact ⟨k1.trans k2, h2, HF.out.2⟩
  case done =>
   rintro D E W hD ⟨hi, hall⟩ hDE hK
   have h0 : lfe (sidesOf l) = 0 := lfe_zero.2 hall
   have HG : Hid (crightW l = if 4000 < wrap64 (csize l) then 3 else 0) := by
    show _ = _
    rw [HE.out, h0, if_neg (by simp)]
   have hls := lsize_any l (.slice a l.length c) W (hc.keep hi.bel) hsh
   have fin : Hid (∀ w1, Below W.heap.size W w1 -> ∀ r : Int, (w1.cell? ⟨w.heap.size, 0, none⟩ = some (.int .i64 0) ∧ w1.frozen? ⟨w.heap.size, 0, none⟩ = false) ∧ (w1.setCell ⟨w.heap.size, 0, none⟩ (.int .i64 r)).heap[D]? = some (.deferred (some [])) ∧ ((w1.setCell ⟨w.heap.size, 0, none⟩ (.int .i64 r)).putObj D (.deferred none)).cell? ⟨w.heap.size, 0, none⟩ = some (.int .i64 r) ∧ Below w.heap.size w ((w1.setCell ⟨w.heap.size, 0, none⟩ (.int .i64 r)).putObj D (.deferred none))) := fun w1 hb1 r => by
    obtain ⟨k1, h1⟩ := hi.grow hb1
    obtain ⟨k2, h2⟩ := h1.store (Nat.le_refl _) (fun _ => .int .i64 r) []
    have hne : D ≠ w.heap.size := by omega
    have hb2 : Boxed ((w1.setCell ⟨w.heap.size, 0, none⟩ (.int .i64 r)).putObj D (.deferred none)) w.heap.size 50 (.int .i64 r) := (World.putObj_heap_other (by omega)).trans h2.box
    exact ⟨⟨h1.box.cell, h1.box.frozen⟩, ((k1.trans k2).mine D hDE).trans hK, hb2.cell, h2.bel.trans ⟨rfl, rfl, rfl, by simp, fun k hk => World.putObj_heap_other (by omega)⟩⟩
   clear hi hall hDE hK h0 HE hsh hc hB0 hB1 hbel
   generalize wrap64 (csize l) = z at *
   by_cases hz : 4000 < z
   ·have Hr : Hid (crightW l = 3) := by show _ = _; rw [HG.out, if_pos hz]
    gi_wp2_with (refine ⟨trivial, ?_⟩; gi_at_call 108; refine (callsIn_wide.2 hls).mono ?_; rintro e w1 ⟨rfl, hb1⟩; obtain ⟨⟨c1, f1⟩, g1, g2, g3⟩ := fin.out w1 hb1 3)
    refine ⟨by simp, .inl ⟨_, _, rfl, run_takeDeferred g1, ?_⟩⟩
    refine ⟨_, by simp [results, Tryz.results69, go_sem, g2]; rfl, ?_, g3⟩
    exact ret_i64 Hr.out.symm
   ·have Hr : Hid (crightW l = 0) := by show _ = _; rw [HG.out, if_neg hz]
    gi_wp2_with (refine ⟨trivial, ?_⟩; gi_at_call 108; refine (callsIn_wide.2 hls).mono ?_; rintro e w1 ⟨rfl, hb1⟩; obtain ⟨⟨c1, f1⟩, g1, g2, g3⟩ := fin.out w1 hb1 0)
    refine ⟨by simp, .inl ⟨_, _, rfl, run_takeDeferred g1, ?_⟩⟩
    refine ⟨_, by simp [results, Tryz.results69, go_sem, g2]; rfl, ?_, g3⟩
    exact ret_i64 Hr.out.symm
  case stop =>
   rintro D E pre W hD ⟨hi, hne⟩ hDE hK
   have Hr : Hid (crightW l = lfe (sidesOf l)) := by show _ = _; rw [HE.out, if_pos hne]
   have hb2 : Boxed (W.putObj D (.deferred none)) w.heap.size 50 (.int .i64 (lfe (sidesOf l))) := (World.putObj_heap_other (by omega)).trans hi.box
   have g2 := hb2.cell
   have g3 : Below w.heap.size w (W.putObj D (.deferred none)) := hi.bel.trans ⟨rfl, rfl, rfl, by simp, fun k hk => World.putObj_heap_other (by omega)⟩
   gi_wp2
   refine ⟨by simp, .inl ⟨_, _, rfl, run_takeDeferred hK, ?_⟩⟩
   refine ⟨_, by simp [results, Tryz.results69, go_sem, g2]; rfl, ?_, g3⟩
   exact ret_i64 Hr.out.symm
end Go.Proofs.YtglphfhlpobgcaaGreat
