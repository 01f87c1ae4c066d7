import Derived.Test.YthkinkcpfcpehaaGreatDoorLM
import Derived.Laws.IdiomStrings
import Derived.Deep.Slices
import Derived.Deep.RegionLaw
import Derived.Maps.AppendAt
import Derived.RangeFuncNested
import Derived.RangeFuncBound
import Derived.RangeFuncCalls
import Derived.RangeFuncLeaves
import Derived.Shelf.Abstract
import Derived.Shelf.RegionOpen
import Derived.OwnWalkIn
import Derived.TacticsInMore
import Derived.LoopNIn
import Derived.LoopIn
import Derived.Maps.OwnIn
namespace Go.Proofs.YthkinkcpfcpehaaGreatDoor.Lx
set_option maxRecDepth 100000
set_option maxHeartbeats 1000000
section
open Go.RowKit Go.Shelf
structure Tk where
  k : Int
  a : Nat
  t : List UInt8
def lexL (a : Nat) (l : List UInt8) : List Tk × Nat × Int :=
  match l with
  | [] => ([], 0, 0)
  | c :: r =>
    if c = 32 ∨ c = 9 ∨ c = 13 then lexL (a + 1) r
    else if c = 37 then ([], 0, 0)
    else if (rd (c :: r)).e ≠ 0 then ([], a, (rd (c :: r)).e)
    else (⟨(rd (c :: r)).k, a, (rd (c :: r)).t⟩ :: (lexL (a + (rd (c :: r)).n) (r.drop ((rd (c :: r)).n - 1))).1, (lexL (a + (rd (c :: r)).n) (r.drop ((rd (c :: r)).n - 1))).2)
termination_by l.length
decreasing_by all_goals simp <;> omega
theorem lexL_nil (a : Nat) : lexL a [] = ([], 0, 0) := by unfold lexL; rfl
theorem lexL_blank {a : Nat} {c : UInt8} {r : List UInt8} (h : c = 32 ∨ c = 9 ∨ c = 13) : lexL a (c :: r) = lexL (a + 1) r := by
  conv => lhs; unfold lexL
  simp only [if_pos h]
theorem lexL_rem {a : Nat} {r : List UInt8} : lexL a (37 :: r) = ([], 0, 0) := by
  unfold lexL
  rw [if_neg (by decide), if_pos rfl]
theorem lexL_err {a : Nat} {c : UInt8} {r : List UInt8} (h : ¬ (c = 32 ∨ c = 9 ∨ c = 13)) (h2 : c ≠ 37) (h3 : (rd (c :: r)).e ≠ 0) : lexL a (c :: r) = ([], a, (rd (c :: r)).e) := by
  conv => lhs; unfold lexL
  rw [if_neg h, if_neg h2, if_pos h3]
theorem rdW_n {k : Int} {l : List UInt8} (h : (rdW k l).e = 0) : (rdW k l).n = wlen l := by
  unfold rdW at h ⊢
  split
  · rename_i h6; rw [if_pos h6] at h; exact absurd h (by decide)
  · rfl
theorem wlen_pos {l : List UInt8} (h : wdB (hd l) = true) (h0 : l ≠ []) : 1 ≤ wlen l := by
  cases l with
  | nil => exact absurd rfl h0
  | cons c r =>
    have : wdB c.toNat = true := h
    rw [wlen_yes this]; omega
theorem rd_n {l : List UInt8} (h : (rd l).e = 0) (h0 : l ≠ []) : 1 ≤ (rd l).n ∧ (rd l).n ≤ l.length := by
  have hlen : 1 ≤ l.length := by cases l with | nil => exact absurd rfl h0 | cons c r => simp
  cases h1 : smB (hd l)
  · cases h2 : caB (hd l)
    · by_cases h3 : hd l = 39
      · have hr : rd l = rdQ (l.drop 1) := by unfold rd; rw [h1, h2, if_neg (by simp), if_neg (by simp), if_pos h3]
        rw [hr] at h ⊢
        unfold rdQ at h ⊢
        cases hq : qs (l.drop 1) with
        | none => rw [hq] at h; exact absurd h (by decide)
        | some p =>
          obtain ⟨u1, u2, _⟩ := qs_uq _ _ (Nat.le_refl _) p.1 p.2 hq
          rw [List.length_drop] at u2
          rw [hq] at h
          simp only at h ⊢
          split
          · rename_i hb
            rw [if_pos hb] at h
            split
            · rename_i h6; rw [if_pos h6] at h; exact absurd h (by decide)
            · refine ⟨?_, ?_⟩
              · show 1 ≤ p.2 + 1; omega
              · show p.2 + 1 ≤ l.length; omega
          · rename_i hb; rw [if_neg hb] at h; exact absurd h (by decide)
      · by_cases h4 : hd l = 36
        · have hr : rd l = rdD l := by unfold rd; rw [h1, h2, if_neg (by simp), if_neg (by simp), if_neg h3, if_pos h4]
          rw [hr] at h ⊢
          have hw := wlen_le (l.drop 1)
          rw [List.length_drop] at hw
          unfold rdD at h ⊢
          obtain ⟨n, hn⟩ : ∃ n, wlen (l.drop 1) = n := ⟨_, rfl⟩
          rw [hn] at h hw ⊢
          simp only at h ⊢
          split
          · refine ⟨?_, ?_⟩
            · show 1 ≤ 1 + n; omega
            · show 1 + n ≤ l.length; omega
          · rename_i hb
            rw [if_neg hb] at h
            split
            · refine ⟨?_, ?_⟩
              · show 1 ≤ 1 + n; omega
              · show 1 + n ≤ l.length; omega
            · rename_i hc; rw [if_neg hc] at h; exact absurd h (by decide)
        · have hr : rd l = rdM l := by unfold rd; rw [h1, h2, if_neg (by simp), if_neg (by simp), if_neg h3, if_neg h4]
          rw [hr] at h ⊢
          unfold rdM at h ⊢
          cases hf : mks.find? (fun m => Lib.hasPrefix l m) with
          | none => rw [hf] at h; exact absurd h (by decide)
          | some m =>
            have hm := List.mem_of_find?_eq_some hf
            have hp := List.find?_some hf
            have hpos : ∀ m ∈ mks, 1 ≤ m.length := by decide
            refine ⟨hpos m hm, ?_⟩
            have : m <+: l := List.isPrefixOf_iff_prefix.1 hp
            exact this.length_le
    · have hr : rd l = rdW 2 l := by unfold rd; rw [h1, h2, if_neg (by simp), if_pos rfl]
      rw [hr] at h ⊢
      rw [rdW_n h]
      exact ⟨wlen_pos (by unfold wdB; rw [h2]; simp) h0, wlen_le l⟩
  · have hr : rd l = rdW 1 l := by unfold rd; rw [h1, if_pos rfl]
    rw [hr] at h ⊢
    rw [rdW_n h]
    exact ⟨wlen_pos (by unfold wdB; rw [h1]; simp) h0, wlen_le l⟩
/-- Tokens that came, ahead of the rest. -/
def addD (done : List Tk) (q : List Tk × Nat × Int) : List Tk × Nat × Int := (done ++ q.1, q.2)
theorem lexL_tok {a : Nat} {c : UInt8} {r : List UInt8} (h : ¬ (c = 32 ∨ c = 9 ∨ c = 13)) (h2 : c ≠ 37) (h3 : (rd (c :: r)).e = 0) (done : List Tk) : addD done (lexL a (c :: r)) = addD (done ++ [⟨(rd (c :: r)).k, a, (rd (c :: r)).t⟩]) (lexL (a + (rd (c :: r)).n) ((c :: r).drop (rd (c :: r)).n)) := by
  obtain ⟨hn, _⟩ := rd_n h3 (by simp)
  have e : (c :: r).drop (rd (c :: r)).n = r.drop ((rd (c :: r)).n - 1) := by
    obtain ⟨m, hm⟩ : ∃ m, (rd (c :: r)).n = m + 1 := ⟨(rd (c :: r)).n - 1, by omega⟩
    rw [hm]; rfl
  rw [e]
  conv => lhs; unfold lexL
  rw [if_neg h, if_neg h2, if_neg (by simpa using h3)]
  simp [addD]
/-- The cells of tokens. -/
def flK (l : List Tk) : List Value := l.flatMap fun f => [.int .i64 f.k, .int .i64 (f.a : Nat), .string (ofL f.t)]
theorem flK_len (l : List Tk) : (flK l).length = l.length * 3 := by
  induction l with
  | nil => rfl
  | cons a r ih => simp only [flK, List.flatMap_cons, List.length_append, List.length_cons, List.length_nil] at ih ⊢; omega
theorem flK_snoc (l : List Tk) (f : Tk) : flK (l ++ [f]) = flK l ++ [.int .i64 f.k, .int .i64 (f.a : Nat), .string (ofL f.t)] := by simp [flK]
theorem flK_get : ∀ (l : List Tk) (i : Nat) (h : i < l.length), (flK l)[i * 3]? = some (.int .i64 l[i].k) ∧ (flK l)[i * 3 + 1]? = some (.int .i64 (l[i].a : Nat)) ∧ (flK l)[i * 3 + 2]? = some (.string (ofL l[i].t))
  | f :: l, 0, _ => ⟨rfl, rfl, rfl⟩
  | f :: l, i + 1, h => by
    have ih := flK_get l i (by simpa using h)
    have e : ∀ j, (flK (f :: l))[(i + 1) * 3 + j]? = (flK l)[i * 3 + j]? := fun j => by
      show ([.int .i64 f.k, .int .i64 (f.a : Nat), .string (ofL f.t)] ++ flK l)[(i + 1) * 3 + j]? = _
      rw [List.getElem?_append_right (by simp; omega)]
      congr 1
      simp
      omega
    exact ⟨(e 0).trans ih.1, (e 1).trans ih.2.1, (e 2).trans ih.2.2⟩
/-- A slice of tokens. -/
def KsAt (W : World) (v : Value) (l : List Tk) : Prop :=
  ∃ a c, v = .slice a l.length c ∧ l.length ≤ c ∧ c ≤ 9223372036854775807 ∧ (0 < l.length → ∃ b o, b < W.heap.size ∧ a = some ⟨b, o, none⟩ ∧ ∀ i (h : i < l.length), W.cell? ⟨b, o + i * 3, none⟩ = some (.int .i64 l[i].k) ∧ W.cell? ⟨b, o + i * 3 + 1, none⟩ = some (.int .i64 (l[i].a : Nat)) ∧ W.cell? ⟨b, o + i * 3 + 2, none⟩ = some (.string (ofL l[i].t)))
theorem KsAt.nil (W : World) : KsAt W (.slice none 0 0) [] := ⟨none, 0, rfl, Nat.le_refl _, by decide, fun h => absurd h (by simp)⟩
theorem KsAt.keep {W W' : World} {n : Nat} {v : Value} {l : List Tk} (h : KsAt W v l) (hb : Below n W W') (hn : W.heap.size ≤ n) : KsAt W' v l := by
  obtain ⟨a, c, e, h1, h2, h3⟩ := h
  refine ⟨a, c, e, h1, h2, fun h0 => ?_⟩
  obtain ⟨b, o, hlt, ea, hc⟩ := h3 h0
  refine ⟨b, o, Nat.lt_of_lt_of_le hlt hb.size, ea, fun i hi => ?_⟩
  obtain ⟨c0, c1, c2⟩ := hc i hi
  exact ⟨kc hb (by omega) c0, kc hb (by omega) c1, kc hb (by omega) c2⟩
theorem KsAt.slice {W : World} {v : Value} {l : List Tk} (h : KsAt W v l) : ∃ a c, v = .slice a l.length c ∧ l.length ≤ c ∧ c ≤ 9223372036854775807 := by
  obtain ⟨a, c, e, h1, h2, _⟩ := h
  exact ⟨a, c, e, h1, h2⟩
theorem KsAt.nth {W : World} {a : Option Addr} {n c : Nat} {l : List Tk} (h : KsAt W (.slice a n c) l) {i : Nat} (hi : i < l.length) : ∃ b o, a = some ⟨b, o, none⟩ ∧ b < W.heap.size ∧ W.cell? ⟨b, o + i * 3, none⟩ = some (.int .i64 l[i].k) ∧ W.cell? ⟨b, o + i * 3 + 1, none⟩ = some (.int .i64 (l[i].a : Nat)) ∧ W.cell? ⟨b, o + i * 3 + 2, none⟩ = some (.string (ofL l[i].t)) := by
  obtain ⟨a', c', e, h1, h2, h3⟩ := h
  cases e
  obtain ⟨b, o, hlt, ea, hc⟩ := h3 (by omega)
  exact ⟨b, o, ea, hlt, hc i hi⟩
theorem ksAt_of_row {W : World} {base : Nat} {ty : TypeId} {v : Value} {l : List Tk} (h : W.ownsRow base ty 3 v l.length (flK l)) : KsAt W v l := by
  obtain ⟨hl, ⟨e, h0⟩ | ⟨g, cap, cur, e, hb, hg, hc, hm, hsz, ht⟩⟩ := h
  · have : l = [] := List.eq_nil_of_length_eq_zero h0
    subst this
    exact ⟨none, 0, e, Nat.le_refl _, by omega, fun h => absurd h (by simp)⟩
  · refine ⟨_, cap, e, hc, by unfold maxLen at hm; omega, fun _ => ⟨g, 0, (Array.getElem?_eq_some_iff.1 hg).1, rfl, fun i hi => ?_⟩⟩
    have hget : ∀ j u, (flK l)[j]? = some u → W.cell? ⟨g, 0 + j, none⟩ = some u := fun j u hj => by
      have hjl : j < l.length * 3 := by have := (List.getElem?_eq_some_iff.1 hj).1; rwa [flK_len] at this
      rw [← ht, List.getElem?_take, if_pos hjl] at hj
      rw [Nat.zero_add, cell_of_row _ _ _ _ ty (0, 0) hg, ← hj]
      simp
    obtain ⟨q0, q1, q2⟩ := flK_get l i hi
    exact ⟨hget _ _ q0, hget _ _ q1, hget _ _ q2⟩
theorem row_slice {W : World} {base size n : Nat} {e : TypeId} {v : Value} {xs : List Value} (h : W.ownsRow base e size v n xs) : ∃ a c, v = .slice a n c := by
  obtain ⟨_, r⟩ := h
  rcases r with ⟨h1, h2⟩ | ⟨g, cap, cur, h1, _⟩
  · exact ⟨none, 0, by rw [h1]; simp_all⟩
  · exact ⟨_, _, h1⟩
theorem row_keep {n0 : Nat} {W W' : World} {ty : TypeId} {k : Nat} {fv : Value} {n : Nat} {vs : List Value} (h : W.ownsRow n0 ty k fv n vs) (hB : ∀ g, fv.ownBlock = some g → W'.heap[g]? = W.heap[g]?) : W'.ownsRow n0 ty k fv n vs := by
  obtain ⟨h1, h2⟩ := h
  refine ⟨h1, ?_⟩
  rcases h2 with h2 | ⟨g, cap, cur, e, hb, hg, r⟩
  · exact .inl h2
  · exact .inr ⟨g, cap, cur, e, hb, (hB g (by rw [e]; rfl)).trans hg, r⟩
theorem row_block {W : World} {n0 : Nat} {ty : TypeId} {k : Nat} {fv : Value} {n : Nat} {vs : List Value} (h : W.ownsRow n0 ty k fv n vs) {g : Nat} (hg : fv.ownBlock = some g) : n0 ≤ g ∧ ∃ cur, W.heap[g]? = some (.cells cur ty (0, 0)) := by
  obtain ⟨_, ⟨e, _⟩ | ⟨g', cap, cur, e, hb, hg', _⟩⟩ := h
  · rw [e] at hg; cases hg
  · rw [e] at hg
    have : g' = g := by simpa [Value.ownBlock] using hg
    subst this
    exact ⟨hb, cur, hg'⟩
theorem row_below {W W' : World} {n0 : Nat} {ty : TypeId} {k : Nat} {fv : Value} {n : Nat} {vs : List Value} (h : W.ownsRow n0 ty k fv n vs) (hb : Below W.heap.size W W') : W'.ownsRow n0 ty k fv n vs :=
  row_keep h (fun g hg => by obtain ⟨_, cq, hcq⟩ := row_block h hg; exact hb.block g (Array.getElem?_eq_some_iff.1 hcq).1)
end
section
open Go.RowKit Go.Shelf
theorem Tryz.info57 : (Tryz.prog.info? 57).map (fun i => (i.zero, i.size, i.bytes)) = some (some (.agg #[.int .i64 0, .int .i64 0, .string ⟨#[]⟩]), 3, 32) := by kernel_rfl
theorem lit3 (X : World) (n : Nat) (u v r : Value) (ty : TypeId) (hn : n = X.heap.size) : ∀ j x, [u, v, r][j]? = some x → (X.alloc (.cells #[u, v, r] ty)).cell? ((⟨n, 0, none⟩ : Addr).add j) = some x := by
  intro j x hj
  subst hn
  have ea : (⟨X.heap.size, 0, none⟩ : Addr).add j = ⟨X.heap.size, j, none⟩ := by unfold Addr.add; split <;> simp_all
  rw [ea, World.cell?_alloc_new]
  simpa using hj
theorem one3 {a b : Int} {t : ByteArray} : ∀ u ∈ [Value.int .i64 a, Value.int .i64 b, Value.string t], u.oneCell' = true := by
  intro u hu
  simp only [List.mem_cons, List.not_mem_nil, or_false] at hu
  rcases hu with rfl | rfl | rfl <;> rfl
/-- What Lex answers. -/
def LexP (q : List Tk × Nat × Int) (w : World) (e : Ending) (w' : World) : Prop :=
  ∃ v, e = .returned (.tuple #[v, .int .i64 (q.2.1 : Nat), .int .i64 q.2.2]) ∧ (KsAt w' v (if q.2.2 = 0 then q.1 else []) ∧ ∀ b, v.ownBlock = some b → b < w'.heap.size) ∧ Below w.heap.size w w'
end
section
open Go.RowKit Go.Shelf
/-- Behind a round: what lay below n, and the blocks E, lie as they lay. -/
structure Kept (n : Nat) (E : List Nat) (W W' : World) : Prop where
  below : Below n W W'
  mine : ∀ r ∈ E, W'.heap[r]? = W.heap[r]?
theorem Kept.trans {n : Nat} {E : List Nat} {X Y Z : World} (h : Kept n E X Y) (k : Kept n E Y Z) : Kept n E X Z := ⟨h.below.trans k.below, fun r hr => (k.mine r hr).trans (h.mine r hr)⟩
/-- It bears what an iterator does that owns the blocks E: it turns one of them, and lays new ones, which may become its own. -/
def Abide {γ : Type} (I : List Nat → γ → World → Prop) : Prop :=
  ∀ E E' s W W' row, I E s W → W.grownBy W' row → (∀ r, row = some r → r ∈ E) → (∀ r ∈ E', r ∈ E ∨ (W.heap.size ≤ r ∧ r < W'.heap.size)) → I E' s W'
theorem Abide.put {γ : Type} {I : List Nat → γ → World → Prop} (h : Abide I) {E : List Nat} {s : γ} {W : World} {l : Nat} (o : Obj) (hs : I E s W) (hl : l ∈ E) : I E s (W.putObj l o) :=
  h E E s W _ (some l) hs (grownBy_putObj' W l o) (fun r e => by cases e; exact hl) (fun _ hr => .inl hr)
/-- How a round's body may end. -/
def endE {γ : Type} (n : Nat) (E : List Nat) (I Ix : List Nat → γ → World → Prop) (s : γ) (W : World) : Exit → Act → World → Prop
  | .normal, _, W' => Kept n E W W' ∧ I E s W'
  | .ret, _, W' => Kept n E W W' ∧ Ix E s W'
  | _, _, _ => False
/-- What the iterator hands out: a token, an error. -/
abbrev It := Tk × Int
abbrev itv (x : It) : Array Value := #[.agg #[.int .i64 x.1.k, .int .i64 (x.1.a : Nat), .string (ofL x.1.t)], .int .i64 x.2]
/-- What a call of yield does for the iterator. -/
def YieldsK (l : Nat) (w0 : World) (all : List It) (J Jx : List Nat → List It → World → Prop) : Prop :=
  ∀ E pre x W, J E pre W → Below w0.heap.size w0 W → (∃ rest, pre ++ x :: rest = all) →
    ∀ m, YieldAt Fence.wide m Tryz.prog l (itv x) W fun e W' => (e = .returned (.bool true) ∧ J E (pre ++ [x]) W' ∧ Kept w0.heap.size E W W') ∨ (e = .returned (.bool false) ∧ Jx E (pre ++ [x]) W')
/-- What an iterator over numbers does, called in W. -/
def IterK (gf : Nat) (lb : Array Value) (w0 : World) (all : List It) (E0 : List Nat) (W : World) : Prop :=
  ∀ (m l : Nat) (J Jx : List Nat → List It → World → Prop), Abide J → YieldsK l w0 all J Jx → J E0 [] W →
    CallsIn Fence.wide m Tryz.prog gf (#[.func (.yield l) #[] #[]] ++ lb) W fun e W' => (∃ v, e = .returned v) ∧ ((∃ E, J E all W') ∨ (∃ E pre, Jx E pre W'))
theorem range_k {ps : Array Tmp} {assign body : Code} {Q : Exit → Act → World → Prop} {a : Act} {w : World} {g : Operand} {gf : Nat} {lb : Array Value} {w0 : World} {all : List It} {E0 : List Nat} (m : Nat)
    (hg : a.eval g = .func (.func gf) #[] lb) (eg : ∀ args w, (callFunc gf args).run Tryz.prog w = .ok (.enter gf args) w) (hps : ps.size = 2)
    (hseq : ∀ W, Below w.heap.size w W → IterK gf lb w0 all E0 W)
    (I Ix : List Nat → List It → World → Prop) (hI : Abide I) (hIx : Abide Ix) (h0 : I E0 [] w) (hw0 : w0.heap.size ≤ w.heap.size) (hlow : ∀ E pre W, I E pre W → ∀ r ∈ E, r < W.heap.size)
    (Ax : It → Act → World → Prop) (hAx : ∀ p a' W l r o, Ax p a' W → W.heap[l]? = some (.loop r) → Ax p a' (W.putObj l o))
    (hassign : ∀ (l : Nat) (p : It) (W : World) (K : Act → World → Prop), (∀ a' W', Below W.heap.size W W' → Ax p a' W' → K a' W') →
      assign.wpIn (Fence.wide.inRound l) (m - 1) Tryz.prog (Exit.then K (fun _ _ _ => False)) { tmps := (ps.zip (itv p)).foldl (fun t (p, v) => t.setIfInBounds p v) a.tmps, defers := [] } W)
    (hbody : ∀ (l : Nat) (E : List Nat) (pre : List It) (p : It) (a' : Act) (W : World), I E pre W → l ∈ E → Below w0.heap.size w0 W → (∃ rest, pre ++ p :: rest = all) → Ax p a' W →
      body.wpIn (Fence.wide.inRound l) (m - 1) Tryz.prog (endE w0.heap.size E I Ix (pre ++ [p]) W) a' W)
    (hdone : ∀ (D : Nat) (E : List Nat) (W : World), w.heap.size ≤ D → I E all W → D ∈ E → W.heap[D]? = some (.deferred (some [])) → Q .normal { a with defers := { target := .collected D, args := #[] } :: a.defers } W)
    (hstop : ∀ (D : Nat) (E : List Nat) (pre : List It) (W : World), w.heap.size ≤ D → Ix E pre W → D ∈ E → W.heap[D]? = some (.deferred (some [])) → Code.ret.wpIn Fence.wide m Tryz.prog Q { a with defers := { target := .collected D, args := #[] } :: a.defers } W) :
    (Code.rangeFunc g ps assign body).wpIn Fence.wide m Tryz.prog Q a w := by
  refine wpIn_rangeFunc fun fn hfn => ?_
  let N := w.heap.size
  let lp : LoopState → Option Code → Obj := fun st pe => .loop { state := st, pending := pe, fn := fn, tmps := a.tmps, params := ps, assign := assign, body := body, defers := N }
  let W1 : World := (w.alloc (.deferred (some []))).alloc (lp .ready none)
  have hN : w.heap.size = N := rfl
  have hsz1 : W1.heap.size = N + 2 := by simp [W1, N]
  have hb1 : Below w.heap.size w W1 := below_box2 w _ _
  have hl1 : W1.heap[N + 1]? = some (lp .ready none) := by
    have := (MapKept.heap_alloc (w.alloc (.deferred (some []))) (lp .ready none)).1
    rwa [World.size_alloc] at this
  have hd1 : W1.heap[N]? = some (.deferred (some [])) := (Below.heap_alloc _ _ _ (by simp [N])).trans (MapKept.heap_alloc w _).1
  have hE0 : ∀ r ∈ E0, r < N := fun r hr => hlow _ _ _ h0 r hr
  have hI1 : I (N :: (N + 1) :: E0) [] W1 := by
    have g1 := World.grownBy_alloc w (.deferred (some [])) none
    have g2 := World.grownBy_alloc (w.alloc (.deferred (some []))) (lp .ready none) none
    have s1 : I (N :: E0) [] (w.alloc (.deferred (some []))) := hI _ _ _ _ _ _ h0 g1 (fun _ e => by cases e) (fun r hr => by
      rcases List.mem_cons.1 hr with rfl | hr
      · exact .inr ⟨Nat.le_refl _, by simp [N]⟩
      · exact .inl hr)
    exact hI _ _ _ _ _ _ s1 g2 (fun _ e => by cases e) (fun r hr => by
      rcases List.mem_cons.1 hr with rfl | hr
      · exact .inl (by simp)
      · rcases List.mem_cons.1 hr with rfl | hr
        · exact .inr ⟨by simp [N], by rw [hsz1]; omega⟩
        · exact .inl (by simp [hr]))
  refine ⟨N + 1, [{ target := .collected N, args := #[] }], W1, { target := .fn (.func gf) lb, args := #[.func (.yield (N + 1)) #[] #[]] }, W1, gf, #[.func (.yield (N + 1)) #[] #[]] ++ lb, W1, ?_, ?_, ?_, ?_, ?_, ?_⟩
  · exact run_enterLoop_outer _ _ _ _ _
  · simp only [resolve, hg]
    simp [go_sem]
  · intro f' _
    trivial
  · simp [invoke, go_sem, eg]
  · intro h
    cases h
  · let J : List Nat → List It → World → Prop := fun E pre W => I (N :: (N + 1) :: E) pre W ∧ N ∉ E ∧ N + 1 ∉ E ∧ W.heap[N + 1]? = some (lp .ready none) ∧ W.heap[N]? = some (.deferred (some []))
    let Jx : List Nat → List It → World → Prop := fun E pre W => Ix (N :: (N + 1) :: E) pre W ∧ W.heap[N + 1]? = some (lp .done (some .ret)) ∧ W.heap[N]? = some (.deferred (some []))
    have hJ : Abide J := by
      rintro E E' s W W' row ⟨hi, n1, n2, hl, hd⟩ hg' hr hE
      have lt : N + 1 < W.heap.size := (Array.getElem?_eq_some_iff.1 hl).1
      have m1 : N ∉ E' := fun h => by
        rcases hE _ h with h | h
        · exact n1 h
        · omega
      have m2 : N + 1 ∉ E' := fun h => by
        rcases hE _ h with h | h
        · exact n2 h
        · omega
      refine ⟨hI _ _ _ _ _ _ hi hg' (fun r e => by simp [hr r e]) (fun r h => ?_), m1, m2, (hg'.block _ lt (fun e => n2 (hr _ e.symm))).trans hl, (hg'.block _ (by omega) (fun e => n1 (hr _ e.symm))).trans hd⟩
      rcases List.mem_cons.1 h with rfl | h
      · exact .inl (by simp)
      · rcases List.mem_cons.1 h with rfl | h
        · exact .inl (by simp)
        · rcases hE _ h with h | h
          · exact .inl (by simp [h])
          · exact .inr h
    have hY : YieldsK (N + 1) w0 all J Jx := by
      rintro E pre p W ⟨hi, n1, n2, hl, hd⟩ hw hrest k
      have lt : N + 1 < W.heap.size := (Array.getElem?_eq_some_iff.1 hl).1
      have mem : N + 1 ∈ N :: (N + 1) :: E := by simp
      refine ⟨fn, _, assign, body, run_yield hl (by simp [hps]), RoundIn.mono ?_ fun _ _ h => h⟩
      have hround : RoundIn Fence.wide (m - 1) Tryz.prog (N + 1) fn ((ps.zip (itv p)).foldl (fun t (p, v) => t.setIfInBounds p v) a.tmps) assign body W (fun e W' => (e = .returned (.bool true) ∧ J E (pre ++ [p]) W' ∧ Kept w0.heap.size E W W') ∨ (e = .returned (.bool false) ∧ Jx E (pre ++ [p]) W')) := by
        refine roundIn_of_wpIn hfn (hassign _ p W _ fun a' Wa hba hax => ?_)
        have hin : ∀ r ∈ N :: (N + 1) :: E, Wa.heap[r]? = W.heap[r]? := fun r hr => hba.block r (hlow _ _ _ hi r hr)
        have hla : Wa.heap[N + 1]? = some (lp .ready none) := (hin _ mem).trans hl
        have lta : N + 1 < Wa.heap.size := (Array.getElem?_eq_some_iff.1 hla).1
        refine ⟨_, run_beginRound hla rfl, ?_⟩
        let Wb : World := Wa.putObj (N + 1) (lp .busy none)
        have hlb : Wb.heap[N + 1]? = some (lp .busy none) := World.putObj_heap_same lta
        have hoa : ∀ r, r ≠ N + 1 → Wb.heap[r]? = Wa.heap[r]? := fun r hr => World.putObj_heap_other hr
        have hob : ∀ r ∈ N :: (N + 1) :: E, r ≠ N + 1 → Wb.heap[r]? = W.heap[r]? := fun r hr hne => (hoa r hne).trans (hin r hr)
        have hba0 : Below w0.heap.size W Wa := hba.mono (by omega)
        have hbb : Below w0.heap.size W Wb := hba0.trans ⟨rfl, rfl, rfl, by simp [Wb], fun k hk => hoa k (by omega)⟩
        have ga : W.grownBy Wa none := ⟨hba.os, hba.tape, hba.output, hba.size, fun k hk _ => hba.block k hk⟩
        have hia := hI _ _ _ _ _ _ hi ga (fun _ e => by cases e) (fun _ h => .inl h)
        refine wpIn_mono (hbody (N + 1) (N :: (N + 1) :: E) pre p a' Wb (hI.put _ hia mem) mem (hw.trans hbb) hrest (hAx _ _ _ _ _ _ hax hla)) ?_
        rintro e a3 W3 hp
        have fin : ∀ {jump : Option Code} {st : LoopState}, Kept w0.heap.size (N :: (N + 1) :: E) Wb W3 → (if jump.isNone then LoopState.ready else LoopState.done) = st →
            (Instr.endRound (N + 1) jump).run Tryz.prog W3 = .ok (.bool jump.isNone) (W3.putObj (N + 1) (lp st jump)) ∧ (W3.putObj (N + 1) (lp st jump)).heap[N + 1]? = some (lp st jump) ∧ (W3.putObj (N + 1) (lp st jump)).heap[N]? = some (.deferred (some [])) := by
          intro jump st hk hst
          have hl3 : W3.heap[N + 1]? = some (lp .busy none) := (hk.mine _ mem).trans hlb
          have hd3 : W3.heap[N]? = some (.deferred (some [])) := ((hk.mine _ (by simp)).trans (hob N (by simp) (by omega))).trans hd
          subst hst
          exact ⟨run_endRound jump hl3, World.putObj_heap_same (Array.getElem?_eq_some_iff.1 hl3).1, (World.putObj_heap_other (by omega)).trans hd3⟩
        cases e with
        | normal =>
          obtain ⟨hk, hi3⟩ := hp
          obtain ⟨h1, h2, h3⟩ := fin (jump := none) (st := .ready) hk rfl
          refine ⟨_, _, h1, .inl ⟨rfl, ⟨hI.put _ hi3 mem, n1, n2, h2, h3⟩, ?_⟩⟩
          refine ⟨hbb.trans (hk.below.trans ⟨rfl, rfl, rfl, by simp, fun k hk => World.putObj_heap_other (by omega)⟩), fun r hr => ?_⟩
          have hrn : r ≠ N + 1 := fun e => n2 (e ▸ hr)
          exact ((World.putObj_heap_other hrn).trans (hk.mine r (by simp [hr]))).trans (hob r (by simp [hr]) hrn)
        | ret =>
          obtain ⟨hk, hi3⟩ := hp
          obtain ⟨h1, h2, h3⟩ := fin (jump := some .ret) (st := .done) hk rfl
          exact ⟨_, _, h1, .inr ⟨rfl, hIx.put _ hi3 mem, h2, h3⟩⟩
        | exit id => exact hp.elim
        | goto t => exact hp.elim
        | panic ch => exact hp.elim
        | outgrown => exact hp.elim
      exact ⟨hround.1, fun c cs _ => hround.2 c cs (room_wide _)⟩
    refine (hseq W1 hb1 (m - 1) (N + 1) J Jx hJ hY ⟨hI1, fun h => by have := hE0 _ h; omega, fun h => by have := hE0 _ h; omega, hl1, hd1⟩).mono ?_
    rintro e W2 ⟨⟨v, rfl⟩, (⟨E, hi, n1, n2, hl, hd⟩ | ⟨E, pre, hi, hl, hd⟩)⟩
    · exact ⟨none, _, run_endLoop hl (by simp), hdone N _ _ (Nat.le_refl _) (hI.put _ hi (by simp)) (by simp) ((World.putObj_heap_other (by omega)).trans hd)⟩
    · exact ⟨some .ret, _, run_endLoop hl (by simp), hstop N _ pre _ (Nat.le_refl _) (hIx.put _ hi (by simp)) (by simp) ((World.putObj_heap_other (by omega)).trans hd)⟩
end
section
open Go.RowKit Go.Shelf
attribute [local go_sem] Oper.semAt_some
theorem rdW_bad {k : Int} {l : List UInt8} (h : (rdW k l).e ≠ 0) : (rdW k l).k = 0 ∧ (rdW k l).t = [] := by
  unfold rdW at h ⊢
  split
  · exact ⟨rfl, rfl⟩
  · rename_i h6; rw [if_neg h6] at h; exact absurd rfl h
theorem rd_bad {l : List UInt8} (h : (rd l).e ≠ 0) : (rd l).k = 0 ∧ (rd l).t = [] := by
  cases h1 : smB (hd l)
  · cases h2 : caB (hd l)
    · by_cases h3 : hd l = 39
      · have hr : rd l = rdQ (l.drop 1) := by unfold rd; rw [h1, h2, if_neg (by simp), if_neg (by simp), if_pos h3]
        rw [hr] at h ⊢
        unfold rdQ at h ⊢
        cases hq : qs (l.drop 1) with
        | none => exact ⟨rfl, rfl⟩
        | some p =>
          rw [hq] at h
          simp only at h ⊢
          split
          · rename_i hb
            rw [if_pos hb] at h
            split
            · exact ⟨rfl, rfl⟩
            · rename_i h6; rw [if_neg h6] at h; exact absurd rfl h
          · exact ⟨rfl, rfl⟩
      · by_cases h4 : hd l = 36
        · have hr : rd l = rdD l := by unfold rd; rw [h1, h2, if_neg (by simp), if_neg (by simp), if_neg h3, if_pos h4]
          rw [hr] at h ⊢
          unfold rdD at h ⊢
          simp only at h ⊢
          split
          · rename_i hb; rw [if_pos hb] at h; exact absurd rfl h
          · rename_i hb
            rw [if_neg hb] at h
            split
            · rename_i hc; rw [if_pos hc] at h; exact absurd rfl h
            · exact ⟨rfl, rfl⟩
        · have hr : rd l = rdM l := by unfold rd; rw [h1, h2, if_neg (by simp), if_neg (by simp), if_neg h3, if_neg h4]
          rw [hr] at h ⊢
          unfold rdM at h ⊢
          cases hf : mks.find? (fun m => Lib.hasPrefix l m) with
          | none => exact ⟨rfl, rfl⟩
          | some m => rw [hf] at h; exact absurd rfl h
    · have hr : rd l = rdW 2 l := by unfold rd; rw [h1, h2, if_neg (by simp), if_pos rfl]
      rw [hr] at h ⊢
      exact rdW_bad h
  · have hr : rd l = rdW 1 l := by unfold rd; rw [h1, if_pos rfl]
    rw [hr] at h ⊢
    exact rdW_bad h
def itms (q : List Tk × Nat × Int) : List It := q.1.map (fun t => (t, 0)) ++ if q.2.2 = 0 then [] else [(⟨0, q.2.1, []⟩, q.2.2)]
theorem itms_add (done : List Tk) (q : List Tk × Nat × Int) : itms (addD done q) = done.map (fun t => (t, 0)) ++ itms q := by
  unfold itms addD; simp
theorem sk_lex : ∀ (r : List UInt8) (a : Nat), lexL a r = lexL (a + sk r) (r.drop (sk r))
  | [], a => by simp [sk]
  | c :: r, a => by
    unfold sk
    split
    · rename_i h
      rw [lexL_blank h, sk_lex r (a + 1), List.drop_succ_cons]
      congr 1
      omega
    · split
      · rename_i h
        subst h
        rw [lexL_rem, List.drop_succ_cons, List.drop_length, lexL_nil]
      · simp
theorem sk_stop : ∀ (r : List UInt8), r.drop (sk r) = [] ∨ ∃ c r', r.drop (sk r) = c :: r' ∧ ¬ (c = 32 ∨ c = 9 ∨ c = 13) ∧ c ≠ 37
  | [] => .inl (by simp)
  | c :: r => by
    unfold sk
    split
    · rw [List.drop_succ_cons]; exact sk_stop r
    · rename_i h
      split
      · rw [List.drop_succ_cons, List.drop_length]; exact .inl rfl
      · rename_i h2; exact .inr ⟨c, r, rfl, h, h2⟩
/-- While the iterator goes on. -/
structure TkI (w0 : World) (Bs : Nat) (s : ByteArray) (J : List Nat → List It → World → Prop) (k : Nat) (E : List Nat) (pre : List It) (W : World) : Prop where
  j : J E pre W
  bel : Below w0.heap.size w0 W
  mem : Bs ∈ E
  bs : W.heap[Bs]? = some (.cells #[.string s] 9 (0, 0))
  eq : pre ++ itms (lexL k (s.data.toList.drop k)) = itms (lexL 0 s.data.toList)
  nb : s.data.toList.drop k = [] ∨ ∃ c r', s.data.toList.drop k = c :: r' ∧ ¬ (c = 32 ∨ c = 9 ∨ c = 13) ∧ c ≠ 37
theorem TkI.start {w0 : World} {Bs : Nat} {s : ByteArray} {J : List Nat → List It → World → Prop} {W : World} (hj : J [Bs] [] W) (hb : Below w0.heap.size w0 W) (hs : W.heap[Bs]? = some (.cells #[.string s] 9 (0, 0))) : TkI w0 Bs s J (0 + sk (s.data.toList.drop 0)) [Bs] [] W := by
  refine ⟨hj, hb, by simp, hs, ?_, ?_⟩
  · rw [Nat.zero_add, List.drop_zero, List.nil_append]
    have := sk_lex s.data.toList 0
    rw [Nat.zero_add] at this
    rw [← this]
  · rw [Nat.zero_add, List.drop_zero]; exact sk_stop _
/-- Behind a round. -/
theorem TkI.next {w0 : World} {Bs : Nat} {s : ByteArray} {J : List Nat → List It → World → Prop} {k : Nat} {E : List Nat} {pre : List It} {W W' : World} {m : Nat} {x : Tk} (h : TkI w0 Bs s J k E pre W) (hj : J E (pre ++ [(x, 0)]) W') (hk : Kept w0.heap.size E W W') (he : itms (lexL k (s.data.toList.drop k)) = (x, 0) :: itms (lexL m (s.data.toList.drop m))) : TkI w0 Bs s J (m + sk (s.data.toList.drop m)) E (pre ++ [(x, 0)]) W' := by
  refine ⟨hj, h.bel.trans hk.below, h.mem, (hk.mine _ h.mem).trans h.bs, ?_, ?_⟩
  · rw [← h.eq, he]
    have := sk_lex (s.data.toList.drop m) m
    rw [List.drop_drop] at this
    rw [← this]
    simp
  · rw [← List.drop_drop]; exact sk_stop _
theorem TkI.far {w0 : World} {Bs : Nat} {s : ByteArray} {J : List Nat → List It → World → Prop} {k : Nat} {E : List Nat} {pre : List It} {W W' : World} (hJ : Abide J) (h : TkI w0 Bs s J k E pre W) (hb : Below W.heap.size W W') : TkI w0 Bs s J k E pre W' :=
  ⟨hJ _ _ _ _ _ none h.j ⟨hb.os, hb.tape, hb.output, hb.size, fun k hk _ => hb.block k hk⟩ (fun _ e => by cases e) (fun _ hr => .inl hr), h.bel.trans (hb.mono h.bel.size), h.mem, (hb.block _ (Array.getElem?_eq_some_iff.1 h.bs).1).trans h.bs, h.eq, h.nb⟩
theorem tokens_any (s : ByteArray) (w : World) : Calls Tryz.prog 92 #[.string s] w fun e w' => e = .returned (.func (.func 127) #[] #[.pointer (some ⟨w.heap.size, 0, none⟩)]) ∧ w' = w.alloc (.cells #[.string s] 9) := by
  go_enter Tryz.func92, Tryz.ntmps92
  go_wp2
  go_ret
  exact ⟨rfl, rfl⟩
end
