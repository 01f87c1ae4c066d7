/-
  Feed: what the calls' worlds have in common between two pieces.
-/
import Derived.Test.YtdbfmjfbiokfdaaDoorF
import Derived.Maps.OwnIn
namespace Go.Proofs.YtdbfmjfbiokfdaaDoor
open Go.RowKit Go.Shelf

/-- What is kept, whether the line is too long, and the lines that have ended. -/
abbrev St := List Int × Bool × List (ByteArray × Int)
def pstep (s : St) (p : List Int × Bool) : St :=
  if p.2 = true then ([], false, s.2.2 ++ [(lineT (stepK s.1 s.2.1 p.1).1 (stepK s.1 s.2.1 p.1).2, lineE (stepK s.1 s.2.1 p.1).1 (stepK s.1 s.2.1 p.1).2)])
  else ((stepK s.1 s.2.1 p.1).1, (stepK s.1 s.2.1 p.1).2, s.2.2)
def psteps (s : St) (l : List (List Int × Bool)) : St := l.foldl pstep s
theorem psteps_snoc (s : St) (l : List (List Int × Bool)) (p : List Int × Bool) : psteps s (l ++ [p]) = pstep (psteps s l) p := by simp [psteps]
theorem pstep_lines (s : St) (p : List Int × Bool) : (pstep s p).2.2.length ≤ s.2.2.length + 1 := by
  unfold pstep; split <;> simp
theorem psteps_lines : ∀ (l : List (List Int × Bool)) (s : St), (psteps s l).2.2.length ≤ s.2.2.length + l.length
  | [], s => by simp [psteps]
  | p :: l, s => by
    have h1 := psteps_lines l (pstep s p)
    have h2 := pstep_lines s p
    show (psteps (pstep s p) l).2.2.length ≤ _
    simp; omega

/-- The lines as cells. -/
def flat (ls : List (ByteArray × Int)) : List Value := ls.flatMap fun l => [.string l.1, .int .i64 l.2]
theorem flat_snoc (ls : List (ByteArray × Int)) (l : ByteArray × Int) : flat (ls ++ [l]) = flat ls ++ [.string l.1, .int .i64 l.2] := by simp [flat]
theorem flat_length (ls : List (ByteArray × Int)) : (flat ls).length = ls.length * 2 := by
  induction ls with
  | nil => rfl
  | cons a r ih => simp only [flat, List.flatMap_cons, List.length_append, List.length_cons, List.length_nil] at ih ⊢; omega

/-- Between two pieces: w: the world in which the call began. -/
def FI (w : World) (Bb : Nat) (kv0 : Value) (s : St) (W : World) : Prop :=
  ∃ kv v, Keeps W Bb kv s.1 s.2.1 ∧ Touch Bb kv0 kv w W ∧ Boxed W w.heap.size 32 (.pointer (some ⟨Bb, 0, none⟩)) ∧ Boxed W (w.heap.size + 1) 38 v ∧ W.ownsRow w.heap.size 44 2 v s.2.2.length (flat s.2.2)

theorem row_tag {W : World} {base e size n : Nat} {v : Value} {xs : List Value} (h : W.ownsRow base e size v n xs) {g : Nat} (hg : v.ownBlock = some g) : ∃ cur, W.heap[g]? = some (.cells cur e (0, 0)) := by
  rcases h.2 with ⟨rfl, _⟩ | ⟨g', cap, cur, rfl, _, hgg, _⟩
  · simp [Value.ownBlock] at hg
  · simp [Value.ownBlock] at hg
    subst hg
    exact ⟨cur, hgg⟩

theorem Touch.boxed {Bb : Nat} {kv kv' : Value} {W W' : World} {ks : List Int} {lg : Bool} (ht : Touch Bb kv kv' W W') (hk : Keeps W Bb kv ks lg) {B t : Nat} {u : Value} (h : Boxed W B t u) (h5 : t ≠ 5) : Boxed W' B t u := by
  refine (ht.block B h.lt (fun e => ?_) (h.not_row h5 hk.2.1)).trans h
  subst e
  have := (show W.heap[B]? = _ from h).symm.trans hk.1
  simp at this

theorem Touch.row44 {Bb : Nat} {kv kv' : Value} {W W' : World} {ks : List Int} {lg : Bool} (ht : Touch Bb kv kv' W W') (hk : Keeps W Bb kv ks lg) {base size n : Nat} {v : Value} {xs : List Value} (h : W.ownsRow base 44 size v n xs) : W'.ownsRow base 44 size v n xs := by
  refine ⟨h.1, ?_⟩
  rcases h.2 with hn | ⟨g, cap, cur, rfl, hb, hgg, rest⟩
  · exact .inl hn
  · refine .inr ⟨g, cap, cur, rfl, hb, ?_, rest⟩
    refine (ht.block g (Array.getElem?_eq_some_iff.1 hgg).1 (fun e => ?_) (fun e => ?_)).trans hgg
    · subst e
      have := hgg.symm.trans hk.1
      simp at this
    · obtain ⟨cur', hc⟩ := row_tag hk.2.1 e.symm
      have := hgg.symm.trans hc
      simp at this

theorem Touch.keepsOthers {Bb : Nat} {kv kv' : Value} {W W' : World} {ks : List Int} {lg : Bool} (ht : Touch Bb kv kv' W W') (hk : Keeps W Bb kv ks lg) : KeepsOthers W W' :=
  ⟨ht.size, fun k o ho hc => by
    refine (ht.block k (Array.getElem?_eq_some_iff.1 ho).1 (fun e => ?_) (fun e => ?_)).trans ho
    · subst e
      rw [show W.heap[k]? = _ from hk.1] at ho; cases ho; cases hc
    · obtain ⟨cur', hc'⟩ := row_tag hk.2.1 e.symm
      rw [hc'] at ho; cases ho; cases hc⟩

theorem Touch.drew {Bb : Nat} {kv kv' : Value} {W W' : World} (ht : Touch Bb kv kv' W W') : Touch Bb kv kv' W W'.drew := ⟨ht.os, ht.tape, ht.output, ht.size, ht.block, ht.row⟩
theorem Keeps.drew {Bb : Nat} {kv : Value} {W : World} {ks : List Int} {lg : Bool} (hk : Keeps W Bb kv ks lg) : Keeps W.drew Bb kv ks lg := hk

/-- Whatever grows beside the buffer. -/
theorem Touch.grown {Bb : Nat} {kv kv' : Value} {w W W' : World} {row : Option Nat} (ht : Touch Bb kv kv' w W) (hg : W.grownBy W' row) (hr : ∀ r, row = some r → w.heap.size ≤ r) : Touch Bb kv kv' w W' :=
  ⟨hg.os.trans ht.os, hg.tape.trans ht.tape, hg.output.trans ht.output, Nat.le_trans ht.size hg.size,
   fun k hk h1 h2 => (hg.block k (Nat.lt_of_lt_of_le hk ht.size) (fun e => by have := hr k e.symm; omega)).trans (ht.block k hk h1 h2), ht.row⟩

theorem FI.own (w : World) (Bb : Nat) (kv0 : Value) (_hBb : Bb < w.heap.size) (B : Nat) (hB : w.heap.size + 2 ≤ B) {β : Type} (f : β → St) : OwnFrom B (fun s W => FI w Bb kv0 (f s) W) := by
  rintro s X Y row ⟨kv, v, h1, h2, h3, h4, h5⟩ hg hr
  have notc : ∀ (g : Nat) (cur : Array Value) (e : TypeId), X.heap[g]? = some (.cells cur e (0, 0)) → some g ≠ row := by
    intro g cur e hc e'
    obtain ⟨_, o, ho, hoc⟩ := hr g e'.symm
    rw [hc] at ho; cases ho; cases hoc
  refine ⟨kv, v, h1.kept hg (notc _ _ _ h1.1) ?_, h2.grown hg (fun r e => by have := (hr r e).1; omega), h3.kept hg (notc _ _ _ h3), h4.kept hg (notc _ _ _ h4), h5.kept hg ?_⟩
  · cases hq : kv.ownBlock with
    | none => exact .inl rfl
    | some g => obtain ⟨cur, hc⟩ := row_tag h1.2.1 hq; exact .inr (notc _ _ _ hc)
  · cases hq : v.ownBlock with
    | none => exact .inl rfl
    | some g => obtain ⟨cur, hc⟩ := row_tag h5 hq; exact .inr (notc _ _ _ hc)

/-- The chunk's bytes lie on. -/
theorem Touch.kpc {Bb b o : Nat} {kv0 kv kv' : Value} {w W W' : World} {xs : List Int} (h : Touch Bb kv0 kv w W) (h' : Touch Bb kv0 kv' w W') (hb : 0 < xs.length → b < w.heap.size ∧ b ≠ Bb ∧ some b ≠ kv0.ownBlock) : KpC b o xs W W' := by
  intro i hi
  obtain ⟨h1, h2, h3⟩ := hb (by omega)
  exact World.cell?_of_block ((h'.block b h1 h2 h3).trans (h.block b h1 h2 h3).symm)

theorem Touch.chunk {Bb b o : Nat} {kv0 kv : Value} {w W : World} {xs : List Int} (h : Touch Bb kv0 kv w W) (hc : ChunkAt w b o xs) (hb : 0 < xs.length → b < w.heap.size ∧ b ≠ Bb ∧ some b ≠ kv0.ownBlock) : ChunkAt W b o xs := by
  intro i hi
  obtain ⟨h1, h2, h3⟩ := hb (by omega)
  exact (World.cell?_of_block (h.block b h1 h2 h3)).trans (hc i hi)

theorem Tryd.info44 : (Tryd.prog.info? 44).map (fun i => (i.zero, i.size, i.bytes)) = some (some (.agg #[.string ⟨#[]⟩, .int .i64 0]), 2, 24) := by kernel_rfl

/-- 'append' as one step of a region that draws its order, inside a fence. -/
theorem stepIn_append {F : Fence} {nF : Nat} {P : Program} (w : World) {ops : Array Oper} {o : Oper} {a : Act} {K : Act → World → Prop} {Q : Exit → Act → World → Prop} {E : Prop} (hgd : o.guard = none) (s x : Operand) (t : TypeId)
    (ho : o.op = .call { callee := .builtin .append, args := #[s, x], argTypes := #[t, t] })
    (base : Nat) (e : TypeId) (i : TypeInfo) (z : Value) (size bytes : Nat) (ht : P.underlying t = some (.slice e)) (hi : P.info? e = some i) (hz : i.zero = some z)
    (hsize : i.size = size) (hby : i.bytes = bytes) (hzs : z.cells.size = size) (hsz : 0 < size)
    (v : Value) (n : Nat) (xs : List Value) (hs : a.eval s = v) (hown : w.ownsRow base e size v n xs)
    (ad : Addr) (m c : Nat) (news : List Value) (hx : a.eval x = .slice (some ad) m c) (hl : news.length = m * size) (hnews : ∀ j u, news[j]? = some u → w.cell? (ad.add j) = some u) (h1 : ∀ u ∈ news, u.oneCell' = true)
    (h63 : n + m ≤ maxLen) (hbytes : (n + m) * bytes ≤ 140737488355328) (hbase : base ≤ w.heap.size)
    (h : ∀ v' w', w'.ownsRow base e size v' (n + m) (xs ++ news) → w.grownBy w' v.ownBlock → K (a.put o.dst v') w') :
    if Region.wanted o (yielded ops a.tmps) = true then Oper.wpIn F nF P o a w K Q else E := by
  have hw : Region.wanted o (yielded ops a.tmps) = true := by simp [Region.wanted, hgd]
  rw [if_pos hw]
  obtain ⟨v', w', hr, h2, h3, h4, h5⟩ := run_append_own_at (P := P) w base t o.type e i z size bytes ht hi hz hsize hby hzs hsz v n xs hown ad m c news hl hnews h1 h63 hbytes hbase
  unfold Oper.wpIn
  refine ⟨by simp [Oper.about, ho, resolve, Target.leads, Sem.run_pure], ?_⟩
  rw [Oper.semAt_plain F _ _ (by rw [ho]; intro c hc'; cases hc')]
  simp [execOp, ho, resolve, invoke, builtin, hs, hx, hr, Result.andThen]
  exact h v' w' h2 h3

/-- Behind the append of a line and the store: all that the walk owes. -/
theorem FI.line {w w2 w3 : World} {Bb : Nat} {kv0 v v' : Value} {ls : List (ByteArray × Int)} {l : ByteArray × Int} {tmp : Obj} (hBb : Bb < w.heap.size)
    (hk : Keeps w2 Bb (.slice none 0 0) [] false) (ht : Touch Bb kv0 (.slice none 0 0) w w2) (hP : Boxed w2 w.heap.size 32 (.pointer (some ⟨Bb, 0, none⟩))) (hL : Boxed w2 (w.heap.size + 1) 38 v)
    (hr : w2.ownsRow w.heap.size 44 2 v ls.length (flat ls)) (hown' : w3.ownsRow w.heap.size 44 2 v' (ls.length + 1) (flat ls ++ [.string l.1, .int .i64 l.2])) (hg : (w2.alloc tmp).grownBy w3 v.ownBlock) :
    w3.cell? ⟨w.heap.size + 1, 0, none⟩ = some v ∧ w3.frozen? ⟨w.heap.size + 1, 0, none⟩ = false ∧ KeepsOthers w2 (w3.setCell ⟨w.heap.size + 1, 0, none⟩ v') ∧ FI w Bb kv0 ([], false, ls ++ [l]) (w3.setCell ⟨w.heap.size + 1, 0, none⟩ v') := by
  obtain ⟨a1, a2, a3, a4, a5⟩ := hL.appended (by decide) hr ht.size (Nat.le_succ _) hown' hg
  refine ⟨a1.cell, a1.frozen, a4, .slice none 0 0, v', ⟨(a5.block Bb hBb).trans hk.1, World.ownsRow_nil _ _ _ _, hk.2.2⟩, ⟨a5.os.trans ht.os, a5.tape.trans ht.tape, a5.output.trans ht.output, Nat.le_trans ht.size a5.size, fun k h1 h2 h3 => (a5.block k h1).trans (ht.block k h1 h2 h3), ht.row⟩, ?_, a2, ?_⟩
  · exact ((hP.alloc tmp).kept hg (hP.not_row (by decide) hr)).kept (grownBy_setCell' w3 (w.heap.size + 1) v') (by simp)
  · rw [flat_snoc, List.length_append]
    exact a3

theorem cell_two_new' (w : World) (x y : Value) (t : TypeId) : ∀ j u, [x, y][j]? = some u → (w.alloc (.cells #[x, y] t)).cell? ((⟨w.heap.size, 0, none⟩ : Addr).add j) = some u := by
  intro j u hj
  rw [addr_add, cell_of_row _ w.heap.size (0 + j) #[x, y] t (0, 0) (World.alloc_heap_new w _)]
  simpa using hj
theorem FI.touch {w W : World} {Bb : Nat} {kv0 : Value} {s : St} (h : FI w Bb kv0 s W) : ∃ kv, Touch Bb kv0 kv w W := by
  obtain ⟨kv, _, _, ht, _⟩ := h
  exact ⟨kv, ht⟩

end Go.Proofs.YtdbfmjfbiokfdaaDoor
