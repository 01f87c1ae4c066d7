/-
  Terms of which it is told in which blocks they lie; rows of terms that grow.
-/
import Derived.Test.YtgnjgpplelakkaaGreatSF
import Derived.Maps.AppendAt
import Derived.Deep.RegionLaw
namespace Go.Proofs.YtgnjgpplelakkaaGreat
open Go.RowKit Go.Maps

/-- A slice of terms in blocks of which P holds. -/
inductive ArgsP (P : Nat → Prop) (W : World) : Value → List T → Prop
  | mk (a : Option Addr) (c : Nat) (l : List T) (s : Nat → Value) (hc : l.length ≤ c) (hm : c ≤ 9223372036854775807)
      (at0 : 0 < l.length → ∃ b o, P b ∧ b < W.heap.size ∧ a = some ⟨b, o, none⟩ ∧ ∀ i (h : i < l.length), W.cell? ⟨b, o + i * 3, none⟩ = some (.int .i64 l[i].v) ∧ W.cell? ⟨b, o + i * 3 + 1, none⟩ = some (.string l[i].fn) ∧ W.cell? ⟨b, o + i * 3 + 2, none⟩ = some (s i))
      (sub : ∀ i (h : i < l.length), ArgsP P W (s i) l[i].args) : ArgsP P W (.slice a l.length c) l

theorem ArgsP.args {P : Nat → Prop} {W : World} {sl : Value} {l : List T} (h : ArgsP P W sl l) : ArgsAt W sl l := by
  induction h with
  | mk a c l s hc hm at0 sub ih =>
    refine .mk a c l s hc hm (fun h0 => ?_) ih
    obtain ⟨b, o, _, hlt, rfl, hcell⟩ := at0 h0
    exact ⟨b, o, hlt, rfl, hcell⟩

theorem ArgsP.keep {P P' : Nat → Prop} {W W' : World} {sl : Value} {l : List T} (h : ArgsP P W sl l) (hs : W.heap.size ≤ W'.heap.size) (hk : ∀ k, P k → k < W.heap.size → P' k ∧ W'.heap[k]? = W.heap[k]?) : ArgsP P' W' sl l := by
  induction h with
  | mk a c l s hc hm at0 sub ih =>
    refine .mk a c l s hc hm (fun h0 => ?_) ih
    obtain ⟨b, o, hn, hlt, rfl, hcell⟩ := at0 h0
    obtain ⟨hp, e⟩ := hk b hn hlt
    refine ⟨b, o, hp, Nat.lt_of_lt_of_le hlt hs, rfl, fun i hi => ?_⟩
    obtain ⟨h1, h2, h3⟩ := hcell i hi
    exact ⟨(World.cell?_of_block (a := ⟨b, _, none⟩) e).trans h1, (World.cell?_of_block (a := ⟨b, _, none⟩) e).trans h2, (World.cell?_of_block (a := ⟨b, _, none⟩) e).trans h3⟩

theorem ArgsAt.belowP {W : World} {sl : Value} {l : List T} (h : ArgsAt W sl l) : ArgsP (fun b => b < W.heap.size) W sl l := by
  induction h with
  | mk a c l s hc hm at0 sub ih =>
    refine .mk a c l s hc hm (fun h0 => ?_) ih
    obtain ⟨b, o, hlt, rfl, hcell⟩ := at0 h0
    exact ⟨b, o, hlt, hlt, rfl, hcell⟩

theorem ArgsP.nil (P : Nat → Prop) (W : World) : ArgsP P W (.slice none 0 0) [] :=
  .mk none 0 [] (fun _ => .slice none 0 0) (Nat.le_refl _) (by decide) (fun h => absurd h (by simp)) (fun i h => absurd h (by simp))

theorem ArgsP.slice {P : Nat → Prop} {W : World} {sl : Value} {l : List T} (h : ArgsP P W sl l) : ∃ a c, sl = .slice a l.length c := by
  cases h with
  | mk a c l s hc hm at0 sub => exact ⟨a, c, rfl⟩

/-- 'append' as one step of a region that draws its order. -/
theorem step_append_own (w : World) {ops : Array Oper} {o : Oper} {a : Act} {K : Act → World → Prop} {Q : Exit → Act → World → Prop} {X : Prop} (hgd : o.guard = none) (s x : Operand) (t : TypeId)
    (ho : o.op = .call { callee := .builtin .append, args := #[s, x], argTypes := #[t, t] })
    (base : Nat) (e : TypeId) (i : TypeInfo) (z : Value) (size bytes : Nat) (ht : Tryz.prog.underlying t = some (.slice e)) (hi : Tryz.prog.info? e = some i) (hz : i.zero = some z)
    (hsize : i.size = size) (hby : i.bytes = bytes) (hzs : z.cells.size = size) (hsz : 0 < size)
    (v : Value) (n : Nat) (xs : List Value) (hs : a.eval s = v) (hown : w.ownsRow base e size v n xs)
    (ad : Addr) (m c : Nat) (news : List Value) (hx : a.eval x = .slice (some ad) m c) (hl : news.length = m * size) (hnews : ∀ j u, news[j]? = some u → w.cell? (ad.add j) = some u) (h1 : ∀ u ∈ news, u.oneCell' = true)
    (h63 : n + m ≤ maxLen) (hbytes : (n + m) * bytes ≤ 140737488355328) (hbase : base ≤ w.heap.size)
    (h : ∀ v' w', w'.ownsRow base e size v' (n + m) (xs ++ news) → w.grownBy w' v.ownBlock → (v'.ownBlock = v.ownBlock ∨ v'.ownBlock = some w.heap.size) → K (a.put o.dst v') w') :
    if Region.wanted o (yielded ops a.tmps) = true then Oper.wp Tryz.prog o a w K Q else X := by
  rw [if_pos (by simp [Region.wanted, hgd])]
  obtain ⟨v', w', hr, h2, h3, _, h5⟩ := run_append_own_at (P := Tryz.prog) w base t o.type e i z size bytes ht hi hz hsize hby hzs hsz v n xs hown ad m c news hl hnews h1 h63 hbytes hbase
  unfold Oper.wp execOp
  simp only [ho, resolve, invoke, builtin, Sem.run_bind, Sem.run_pure, Result.andThen_ok, List.map_toArray, List.map_cons, List.map_nil, hs, hx, hr]
  exact h v' w' h2 h3 h5

theorem row_slice {W : World} {base size n : Nat} {e : TypeId} {v : Value} {xs : List Value} (h : W.ownsRow base e size v n xs) : ∃ a c, v = .slice a n c := by
  obtain ⟨_, r⟩ := h
  rcases r with ⟨h1, h2⟩ | ⟨g, cap, cur, h1, _⟩
  · exact ⟨none, 0, by rw [h1]; simp_all⟩
  · exact ⟨_, _, h1⟩

/-- The cells of a row of terms. -/
def flatT (ps : List (T × Value)) : List Value := ps.flatMap fun p => [.int .i64 p.1.v, .string p.1.fn, p.2]
theorem flatT_snoc (ps : List (T × Value)) (p : T × Value) : flatT (ps ++ [p]) = flatT ps ++ [.int .i64 p.1.v, .string p.1.fn, p.2] := by simp [flatT]
theorem flatT_get : ∀ (ps : List (T × Value)) (i : Nat) (h : i < ps.length), (flatT ps)[i * 3]? = some (.int .i64 ps[i].1.v) ∧ (flatT ps)[i * 3 + 1]? = some (.string ps[i].1.fn) ∧ (flatT ps)[i * 3 + 2]? = some ps[i].2
  | [], i, h => absurd h (by simp)
  | p :: r, 0, _ => by simp [flatT]
  | p :: r, i + 1, h => by
    have ih := flatT_get r i (by simpa using h)
    have e : flatT (p :: r) = [.int .i64 p.1.v, .string p.1.fn, p.2] ++ flatT r := rfl
    have hs : ∀ k, (flatT (p :: r))[3 + k]? = (flatT r)[k]? := fun k => by
      rw [e, List.getElem?_append_right (by simp)]
      simp
    have e0 : (i + 1) * 3 = 3 + i * 3 := by omega
    rw [e0, show 3 + i * 3 + 1 = 3 + (i * 3 + 1) by omega, show 3 + i * 3 + 2 = 3 + (i * 3 + 2) by omega, hs, hs, hs]
    simpa using ih

theorem argsP_of_row {W : World} {base n : Nat} {P : Nat → Prop} {v : Value} {l : List T} {ps : List (T × Value)} (h : W.ownsRow base 28 3 v n (flatT ps)) (hn : l.length = n) (hps : ps.map (·.1) = l) (hP : ∀ b, base ≤ b → P b) (hsl : ∀ p ∈ ps, ArgsP P W p.2 p.1.args) : ArgsP P W v l := by
  subst hn
  have hlen : ps.length = l.length := by rw [← hps]; simp
  have hi : ∀ i (h : i < l.length), (ps[i]'(by omega)).1 = l[i] := fun i h => by subst hps; simp
  have sub : ∀ i (h : i < l.length), ArgsP P W ((fun i => (ps[i]?.map (·.2)).getD undef) i) l[i].args := by
    intro i hil
    have := hsl (ps[i]'(by omega)) (List.getElem_mem _)
    rw [hi i hil] at this
    simpa only [List.getElem?_eq_getElem (show i < ps.length by omega), Option.map_some, Option.getD_some] using this
  rcases h.2 with ⟨e, hn⟩ | ⟨g, cap, cur, e, hb, hg, hcap, hmax, hsz, htk⟩
  · have : l = [] := List.length_eq_zero_iff.1 hn
    subst this
    subst e
    exact ArgsP.nil P W
  · subst e
    refine .mk _ cap l _ hcap (by unfold maxLen at hmax; omega) (fun h0 => ⟨g, 0, hP g hb, (Array.getElem?_eq_some_iff.1 hg).1, rfl, fun i hil => ?_⟩) sub
    obtain ⟨f1, f2, f3⟩ := flatT_get ps i (by omega)
    have look : ∀ j u, j < l.length * 3 → (flatT ps)[j]? = some u → W.cell? ⟨g, 0 + j, none⟩ = some u := fun j u hj hu => by
      rw [Nat.zero_add, cell_of_row _ _ _ _ 28 (0, 0) hg]
      rw [← htk, List.getElem?_take_of_lt hj] at hu
      simpa using hu
    rw [hi i hil] at f1 f2
    refine ⟨look _ _ (by omega) f1, ?_, ?_⟩
    · exact look _ _ (by omega) f2
    · refine (look _ _ (by omega) f3).trans ?_
      simp only [List.getElem?_eq_getElem (show i < ps.length by omega), Option.map_some, Option.getD_some]

theorem row_keep {n0 : Nat} {W W' : World} {ty : TypeId} {k : Nat} {fv : Value} {n : Nat} {vs : List Value} (h : W.ownsRow n0 ty k fv n vs) (hB : ∀ g, fv.ownBlock = some g → W'.heap[g]? = W.heap[g]?) : W'.ownsRow n0 ty k fv n vs := by
  obtain ⟨h1, h2⟩ := h
  refine ⟨h1, ?_⟩
  rcases h2 with h2 | ⟨g, cap, cur, e, hb, hg, r⟩
  · exact .inl h2
  · exact .inr ⟨g, cap, cur, e, hb, (hB g (by rw [e]; rfl)).trans hg, r⟩

end Go.Proofs.YtgnjgpplelakkaaGreat
