/-
  Terms built out of a bank: what lies in memory.
-/
import Derived.Test.YtbbfpllffcfmhaaWK
namespace Go.Proofs.Ytbbfpllffcfmhaa
open Go.RowKit Go.Maps

/-- A slice of terms in blocks of which P holds. -/
inductive ArgsP (P : Nat → Prop) (W : World) : Value → List T → Prop
  | mk (a : Option Addr) (c : Nat) (l : List T) (s : Nat → Value) (hc : l.length ≤ c) (hm : c ≤ 9223372036854775807)
      (at0 : 0 < l.length → ∃ b o, P b ∧ b < W.heap.size ∧ a = some ⟨b, o, none⟩ ∧ ∀ i (h : i < l.length), W.cell? ⟨b, o + i * 3, none⟩ = some (.int .i64 l[i].v) ∧ W.cell? ⟨b, o + i * 3 + 1, none⟩ = some (.string l[i].fn) ∧ W.cell? ⟨b, o + i * 3 + 2, none⟩ = some (s i))
      (sub : ∀ i (h : i < l.length), ArgsP P W (s i) l[i].args) : ArgsP P W (.slice a l.length c) l

theorem ArgsP.args {P : Nat → Prop} {W : World} {sl : Value} {l : List T} (h : ArgsP P W sl l) : ArgsAt W sl l := by
  induction h with
  | mk a c l s hc hm at0 sub ih =>
    refine .mk a c l s hc hm (fun h0 => ?_) ih
    obtain ⟨b, o, _, hlt, rfl, hcell⟩ := at0 h0
    exact ⟨b, o, hlt, rfl, hcell⟩

theorem ArgsP.keep {P P' : Nat → Prop} {W W' : World} {sl : Value} {l : List T} (h : ArgsP P W sl l) (hs : W.heap.size ≤ W'.heap.size) (hk : ∀ k, P k → k < W.heap.size → P' k ∧ W'.heap[k]? = W.heap[k]?) : ArgsP P' W' sl l := by
  induction h with
  | mk a c l s hc hm at0 sub ih =>
    refine .mk a c l s hc hm (fun h0 => ?_) ih
    obtain ⟨b, o, hn, hlt, rfl, hcell⟩ := at0 h0
    obtain ⟨hp, e⟩ := hk b hn hlt
    refine ⟨b, o, hp, Nat.lt_of_lt_of_le hlt hs, rfl, fun i hi => ?_⟩
    obtain ⟨h1, h2, h3⟩ := hcell i hi
    exact ⟨(World.cell?_of_block (a := ⟨b, _, none⟩) e).trans h1, (World.cell?_of_block (a := ⟨b, _, none⟩) e).trans h2, (World.cell?_of_block (a := ⟨b, _, none⟩) e).trans h3⟩

theorem ArgsAt.belowP {W : World} {sl : Value} {l : List T} (h : ArgsAt W sl l) : ArgsP (fun b => b < W.heap.size) W sl l := by
  induction h with
  | mk a c l s hc hm at0 sub ih =>
    refine .mk a c l s hc hm (fun h0 => ?_) ih
    obtain ⟨b, o, hlt, rfl, hcell⟩ := at0 h0
    exact ⟨b, o, hlt, hlt, rfl, hcell⟩

theorem ArgsP.nil (P : Nat → Prop) (W : World) : ArgsP P W (.slice none 0 0) [] :=
  .mk none 0 [] (fun _ => .slice none 0 0) (Nat.le_refl _) (by decide) (fun h => absurd h (by simp)) (fun i h => absurd h (by simp))

theorem ArgsP.slice {P : Nat → Prop} {W : World} {sl : Value} {l : List T} (h : ArgsP P W sl l) : ∃ a c, sl = .slice a l.length c := by
  cases h with
  | mk a c l s hc hm at0 sub => exact ⟨a, c, rfl⟩



theorem argsP_of_row {W : World} {base n : Nat} {P : Nat → Prop} {v : Value} {l : List T} {ps : List (T × Value)} (h : W.ownsRow base 24 3 v n (flat ps)) (hn : l.length = n) (hps : ps.map (·.1) = l) (hP : ∀ b, base ≤ b → P b) (hsl : ∀ p ∈ ps, ArgsP P W p.2 p.1.args) : ArgsP P W v l := by
  subst hn
  have hlen : ps.length = l.length := by rw [← hps]; simp
  have hi : ∀ i (h : i < l.length), (ps[i]'(by omega)).1 = l[i] := fun i h => by subst hps; simp
  have sub : ∀ i (h : i < l.length), ArgsP P W ((fun i => (ps[i]?.map (·.2)).getD undef) i) l[i].args := by
    intro i hil
    have := hsl (ps[i]'(by omega)) (List.getElem_mem _)
    rw [hi i hil] at this
    simpa only [List.getElem?_eq_getElem (show i < ps.length by omega), Option.map_some, Option.getD_some] using this
  rcases h.2 with ⟨e, hn⟩ | ⟨g, cap, cur, e, hb, hg, hcap, hmax, hsz, htk⟩
  · have : l = [] := List.length_eq_zero_iff.1 hn
    subst this
    subst e
    exact ArgsP.nil P W
  · subst e
    refine .mk _ cap l _ hcap (by unfold maxLen at hmax; omega) (fun h0 => ⟨g, 0, hP g hb, (Array.getElem?_eq_some_iff.1 hg).1, rfl, fun i hil => ?_⟩) sub
    obtain ⟨f1, f2, f3⟩ := flat_get ps i (by omega)
    have look : ∀ j u, j < l.length * 3 → (flat ps)[j]? = some u → W.cell? ⟨g, 0 + j, none⟩ = some u := fun j u hj hu => by
      rw [Nat.zero_add, cell_of_row _ _ _ _ 24 (0, 0) hg]
      rw [← htk, List.getElem?_take_of_lt hj] at hu
      simpa using hu
    rw [hi i hil] at f1 f2
    refine ⟨look _ _ (by omega) f1, ?_, ?_⟩
    · exact look _ _ (by omega) f2
    · refine (look _ _ (by omega) f3).trans ?_
      simp only [List.getElem?_eq_getElem (show i < ps.length by omega), Option.map_some, Option.getD_some]



def ob (v : Value) : List Nat := v.ownBlock.toList
theorem mem_ob {v : Value} {g : Nat} : g ∈ ob v ↔ v.ownBlock = some g := by
  unfold ob
  cases v.ownBlock <;> simp [eq_comm]
theorem row_block {W : World} {n0 : Nat} {ty : TypeId} {k : Nat} {fv : Value} {n : Nat} {vs : List Value} (h : W.ownsRow n0 ty k fv n vs) {g : Nat} (hg : fv.ownBlock = some g) : n0 ≤ g ∧ ∃ cur, W.heap[g]? = some (.cells cur ty (0, 0)) := by
  obtain ⟨_, ⟨e, _⟩ | ⟨g', cap, cur, e, hb, hq, _⟩⟩ := h
  · subst e; cases hg
  · subst e
    simp only [Value.ownBlock, Option.some.injEq] at hg
    subst hg
    exact ⟨hb, cur, hq⟩
theorem only_setCell (W : World) (p o : Nat) (v : Value) : Only [p] W (W.setCell ⟨p, o, none⟩ v) := Only.of_grown (World.grownBy_setCell_any W p o v) (fun r e => by cases e; simp)
theorem box_facts {X : World} {n : Nat} {u v s : Value} (h : X.heap[n]? = some (.cells #[u, v, s] 24 (0, 0))) : (X.cell? ⟨n, 0, none⟩ = some u ∧ X.cell? ⟨n, 1, none⟩ = some v ∧ X.cell? ⟨n, 2, none⟩ = some s) ∧ (X.frozen? ⟨n, 0, none⟩ = false ∧ X.frozen? ⟨n, 1, none⟩ = false ∧ X.frozen? ⟨n, 2, none⟩ = false) := by
  refine ⟨⟨?_, ?_, ?_⟩, ?_, ?_, ?_⟩ <;> simp [World.cell?, World.frozen?, h]
abbrev set3 (W : World) (b o : Nat) (u v s : Value) : World := ((W.setCell ⟨b, o, none⟩ u).setCell ⟨b, o + 1, none⟩ v).setCell ⟨b, o + 2, none⟩ s
theorem set3_other (W : World) (b o : Nat) (u v s : Value) (k : Nat) (h : k ≠ b) : (set3 W b o u v s).heap[k]? = W.heap[k]? := by
  unfold set3
  rw [Below.heap_setCell _ _ _ k h, Below.heap_setCell _ _ _ k h, Below.heap_setCell _ _ _ k h]
theorem set3_size (W : World) (b o : Nat) (u v s : Value) : (set3 W b o u v s).heap.size = W.heap.size := by simp
theorem set3_below {n : Nat} {w W : World} (h : Below n w W) (b o : Nat) (u v s : Value) (hb : n ≤ b) : Below n w (set3 W b o u v s) :=
  ((h.setCell (p := ⟨b, o, none⟩) hb _).setCell (p := ⟨b, o + 1, none⟩) hb _).setCell (p := ⟨b, o + 2, none⟩) hb _
theorem heap_setCell_same (W : World) (b i : Nat) (cur : Array Value) (ty : TypeId) (v : Value) (h : W.heap[b]? = some (.cells cur ty (0, 0))) : (W.setCell ⟨b, i, none⟩ v).heap[b]? = some (.cells (cur.setIfInBounds i v) ty (0, 0)) := by
  rw [setCell_eq_setRow W b i _ ty (0, 0) _ h, setRow_heap W b _ _ ty (0, 0) h]

structure BlI (w : World) (v : Int) (fn : ByteArray) (k : Nat) (vv : Value) (ps : List (T × Value)) (wr : World) : Prop where
  bel : Below w.heap.size w wr
  ord : w.heap.size < wr.heap.size
  rb : wr.heap[w.heap.size]? = some (.cells #[.int .i64 0, .string ⟨#[]⟩, .slice none 0 0] 24 (0, 0))
  tb : wr.heap[w.heap.size + 1]? = some (.cells #[.int .i64 v, .string fn, vv] 24 (0, 0))
  row : wr.ownsRow (w.heap.size + 1 + 1) 24 3 vv k (flat ps)
  len : ps.length = k
  sub : ∀ p ∈ ps, ArgsP (fun b => w.heap.size + 1 < b ∧ vv.ownBlock ≠ some b) wr p.2 p.1.args

section
variable {w : World} {v : Int} {fn : ByteArray} {k : Nat} {vv : Value} {ps : List (T × Value)} {wr : World}

theorem BlI.next (h : BlI w v fn k vv ps wr) {Wd W5 W7 : World} (hd : Below wr.heap.size wr Wd) {u : T} {su v7 : Value} (hu : ArgsP (fun b => Wd.heap.size ≤ b) W5 su u.args) (h5 : Below Wd.heap.size Wd W5) {bl : Obj}
    (hrow : W7.ownsRow ((w.heap.size + 1) + 1) 24 3 v7 (k + 1) (flat ps ++ [.int .i64 u.v, .string u.fn, su])) (hg7 : (W5.alloc bl).grownBy W7 vv.ownBlock) (hb7 : v7.ownBlock = vv.ownBlock ∨ v7.ownBlock = some (W5.alloc bl).heap.size) : BlI w v fn (k + 1) v7 (ps ++ [(u, su)]) (W7.setCell ⟨(w.heap.size + 1), 2, none⟩ v7) := by
  have o3 := h.ord
  have hy : (w.heap.size + 1) < wr.heap.size := (Array.getElem?_eq_some_iff.1 h.tb).1
  have hvv : ∀ g, vv.ownBlock = some g → (w.heap.size + 1) + 1 ≤ g ∧ g < wr.heap.size := fun g hg => by
    obtain ⟨h1, cq, hq⟩ := row_block h.row hg
    exact ⟨h1, (Array.getElem?_eq_some_iff.1 hq).1⟩
  obtain ⟨W6, hW6⟩ : ∃ X, W5.alloc bl = X := ⟨_, rfl⟩
  have b6 : Below W5.heap.size W5 W6 := by rw [← hW6]; exact below_box _ _
  rw [hW6] at hg7 hb7
  have h6s := b6.size
  have h5s := h5.size
  have hds := hd.size
  have o7 : Only (ob vv) W6 W7 := Only.of_grown hg7 (fun r hr => mem_ob.2 hr)
  have h7s := o7.size
  have o8 := only_setCell W7 (w.heap.size + 1) 2 v7
  have oE : Only ((w.heap.size + 1) :: ob vv) W5 (W7.setCell ⟨(w.heap.size + 1), 2, none⟩ v7) :=
    ((Only.of_below (B := (w.heap.size + 1) :: ob vv) b6).trans o7 (fun r hr => .inl (List.mem_cons_of_mem _ hr))).trans o8 (fun r hr => .inl (by simp at hr; simp [hr]))
  have oW : Only ((w.heap.size + 1) :: ob vv) wr (W7.setCell ⟨(w.heap.size + 1), 2, none⟩ v7) := ((Only.of_below (B := (w.heap.size + 1) :: ob vv) hd).trans (Only.of_below (B := []) h5) (by simp)).trans oE (fun r hr => .inl hr)
  have kp : ∀ b, b < wr.heap.size → b < (w.heap.size + 1) → (W7.setCell ⟨(w.heap.size + 1), 2, none⟩ v7).heap[b]? = wr.heap[b]? := fun b hb hby => oW.block b hb (fun hm => by
    rcases List.mem_cons.1 hm with e | hm
    · omega
    · have := (hvv _ (mem_ob.1 hm)).1; omega)
  have v7ge : ∀ g, v7.ownBlock = some g → (w.heap.size + 1) + 1 ≤ g := fun g hg => (row_block hrow hg).1
  have v7ne : ∀ b, b < W5.heap.size → vv.ownBlock ≠ some b → v7.ownBlock ≠ some b := fun b hb h1 e => by
    rcases hb7 with e7 | e7
    · exact h1 (e7 ▸ e)
    · rw [e7] at e
      injection e with e
      omega
  have tb7 : W7.heap[(w.heap.size + 1)]? = some (.cells #[.int .i64 v, .string fn, vv] 24 (0, 0)) := by
    rw [o7.block _ (by omega) (fun e => by have := (hvv _ (mem_ob.1 e)).1; omega), b6.block _ (by omega), h5.block _ (by omega), hd.block _ hy]
    exact h.tb
  refine ⟨h.bel.trans (oW.below h.bel.size (fun r hr => ?_)), by have := oW.size; omega, ?_, ?_, ?_, by simp [h.len], fun p hp => ?_⟩
  · rcases List.mem_cons.1 hr with e | hm
    · omega
    · have := (hvv _ (mem_ob.1 hm)).1; omega
  · rw [kp _ o3 (by omega)]; exact h.rb
  · rw [heap_setCell_same W7 (w.heap.size + 1) 2 _ 24 v7 tb7]; rfl
  · rw [flat_snoc]
    exact row_keep hrow (fun g hg => Below.heap_setCell _ _ _ g (by have := v7ge g hg; show g ≠ (w.heap.size + 1); omega))
  · rcases List.mem_append.1 hp with hp | hp
    · refine (h.sub p hp).keep oW.size (fun b ⟨hb1, hb2⟩ hlt => ⟨⟨hb1, v7ne b (by omega) hb2⟩, oW.block b hlt (fun hm => ?_)⟩)
      rcases List.mem_cons.1 hm with e | hm
      · omega
      · exact hb2 (mem_ob.1 hm)
    · obtain rfl := List.mem_singleton.1 hp
      refine hu.keep oE.size (fun b hb1 hlt => ⟨⟨by omega, v7ne b hlt (fun e => by have := (hvv b e).2; omega)⟩, oE.block b hlt (fun hm => ?_)⟩)
      rcases List.mem_cons.1 hm with e | hm
      · omega
      · have := (hvv _ (mem_ob.1 hm)).2; omega

theorem BlI.last (h : BlI w v fn k vv ps wr) : ArgsP (fun b => w.heap.size ≤ b) (set3 wr w.heap.size 0 (.int .i64 v) (.string fn) vv) vv (ps.map (·.1)) ∧ Below w.heap.size w (set3 wr w.heap.size 0 (.int .i64 v) (.string fn) vv) := by
  have o3 := h.ord
  refine ⟨argsP_of_row (base := (w.heap.size + 1) + 1) (n := k) (ps := ps) (row_keep h.row (fun g hg => set3_other _ _ _ _ _ _ g (by have := (row_block h.row hg).1; omega))) (by simp [h.len]) rfl (fun b hb => by omega) (fun p hp => ?_), set3_below h.bel _ 0 _ _ _ (Nat.le_refl _)⟩
  exact (h.sub p hp).keep (by rw [set3_size]; exact Nat.le_refl _) (fun b ⟨hb1, _⟩ _ => ⟨by omega, set3_other _ _ _ _ _ _ b (by omega)⟩)
end

end Go.Proofs.Ytbbfpllffcfmhaa
