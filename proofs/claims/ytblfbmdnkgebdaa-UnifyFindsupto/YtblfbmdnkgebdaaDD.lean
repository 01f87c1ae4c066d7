import Derived.Test.YtblfbmdnkgebdaaHC
import Derived.Test.YtblfbmdnkgebdaaGW
import Derived.Test.YtblfbmdnkgebdaaGS

/-
  The document's net: nodes that have to be one: mathematics.
-/
namespace Go.Proofs.Ytblfbmdnkgebdaa.Dn
open Go.RowKit Go.Maps

/-- A node: a variable, or a function of nodes. -/
structure Nd where
  v : Int
  fn : ByteArray
  args : List Nat

/-- What has to be one: what is one, and the pairs that are still to be joined. -/
inductive Cl (ρ : Nat → Nat) (P : List (Nat × Nat)) : Nat → Nat → Prop
  | same {i j : Nat} (h : ρ i = ρ j) : Cl ρ P i j
  | pair {i j : Nat} (h : (i, j) ∈ P) : Cl ρ P i j
  | symm {i j : Nat} (h : Cl ρ P i j) : Cl ρ P j i
  | trans {i j k : Nat} (h : Cl ρ P i j) (h' : Cl ρ P j k) : Cl ρ P i k

theorem Cl.mono {ρ ρ' : Nat → Nat} {P P' : List (Nat × Nat)} (h1 : ∀ i j, ρ i = ρ j → Cl ρ' P' i j) (h2 : ∀ i j, (i, j) ∈ P → Cl ρ' P' i j) {i j : Nat} (h : Cl ρ P i j) : Cl ρ' P' i j := by
  induction h with
  | same h => exact h1 _ _ h
  | pair h => exact h2 _ _ h
  | symm _ ih => exact ih.symm
  | trans _ _ ih ih' => exact ih.trans ih'

theorem Cl.none {ρ : Nat → Nat} {i j : Nat} (h : Cl ρ [] i j) : ρ i = ρ j := by
  induction h with
  | same h => exact h
  | pair h => cases h
  | symm _ ih => exact ih.symm
  | trans _ _ ih ih' => exact ih.trans ih'

/-- Is node i a function? -/
def Fn (N : List Nd) (i : Nat) : Prop := ∃ d, N[i]? = some d ∧ d.fn.size ≠ 0

/-- Functions of one class fit. -/
def Jn (N : List Nd) (ρ : Nat → Nat) (P : List (Nat × Nat)) : Prop :=
  ∀ (i j : Nat) (di dj : Nd), N[i]? = some di → N[j]? = some dj → di.fn.size ≠ 0 → dj.fn.size ≠ 0 → ρ i = ρ j →
    di.fn = dj.fn ∧ di.args.length = dj.args.length ∧ ∀ (k a b : Nat), di.args[k]? = some a → dj.args[k]? = some b → Cl ρ P a b

/-- Tops. -/
structure Tp (N : List Nd) (ρ : Nat → Nat) : Prop where
  lt : ∀ i, i < N.length → ρ i < N.length
  idem : ∀ i, ρ (ρ i) = ρ i
  fn : ∀ i, Fn N i → Fn N (ρ i)
  le : ∀ (i : Nat) (d d' : Nd), N[i]? = some d → N[ρ i]? = some d' → d'.fn.size = 0 → d'.v ≤ d.v

/-- Class b goes under a. -/
def lk (ρ : Nat → Nat) (b a : Nat) : Nat → Nat := fun i => if ρ i = b then a else ρ i

theorem lk_same {ρ : Nat → Nat} {b a i j : Nat} (h : ρ i = ρ j) : lk ρ b a i = lk ρ b a j := by unfold lk; rw [h]
theorem lk_pair {ρ : Nat → Nat} {b a p q : Nat} (hp : ρ p = a) (hq : ρ q = b) : lk ρ b a p = lk ρ b a q := by
  unfold lk
  rw [if_pos hq]
  split
  · rfl
  · exact hp

theorem lk_cases {ρ : Nat → Nat} {b a i j : Nat} (h : lk ρ b a i = lk ρ b a j) : ρ i = ρ j ∨ (ρ i = b ∧ ρ j = a) ∨ (ρ i = a ∧ ρ j = b) := by
  unfold lk at h
  split at h <;> split at h
  · rename_i h1 h2; exact .inl (h1.trans h2.symm)
  · rename_i h1 h2; exact .inr (.inl ⟨h1, h.symm⟩)
  · rename_i h1 h2; exact .inr (.inr ⟨h, h2⟩)
  · exact .inl h

theorem lk_top {N : List Nd} {ρ : Nat → Nat} (h : Tp N ρ) {b a : Nat} (ha : ρ a = a) (hla : a < N.length) (hf : Fn N b → Fn N a) (hle : ∀ da db : Nd, N[a]? = some da → N[b]? = some db → da.fn.size = 0 → da.v ≤ db.v) : Tp N (lk ρ b a) := by
  refine ⟨fun i hi => ?_, fun i => ?_, fun i hi => ?_, fun i d d' hd hd' h0 => ?_⟩
  · unfold lk
    split
    · exact hla
    · exact h.lt i hi
  · unfold lk
    by_cases h1 : ρ i = b
    · rw [if_pos h1]
      by_cases h2 : ρ a = b
      · rw [if_pos h2]
      · rw [if_neg h2, ha]
    · rw [if_neg h1, h.idem, if_neg h1]
  · have := h.fn i hi
    unfold lk
    split
    · rename_i e; rw [e] at this; exact hf this
    · exact this
  · have hi := (List.getElem?_eq_some_iff.1 hd).1
    unfold lk at hd'
    split at hd'
    · rename_i e
      obtain ⟨db, hdb⟩ : ∃ x, N[b]? = some x := ⟨_, List.getElem?_eq_getElem (e ▸ h.lt i hi)⟩
      have h1 := hle d' db hd' hdb h0
      have hb0 : db.fn.size = 0 := Decidable.byContradiction fun hn => by
        obtain ⟨x, hx, hxf⟩ := hf ⟨db, hdb, hn⟩
        rw [hd'] at hx
        cases hx
        exact hxf h0
      have h2 := h.le i d db hd (by rw [e]; exact hdb) hb0
      omega
    · exact h.le i d d' hd hd' h0

/-- A class without functions goes under another one. -/
theorem Jn.var {N : List Nd} {ρ : Nat → Nat} {P : List (Nat × Nat)} (ht : Tp N ρ) {p q a b : Nat} (h : Jn N ρ ((p, q) :: P)) (hp : ρ p = a ∧ ρ q = b ∨ ρ p = b ∧ ρ q = a) (_ha : ρ a = a) (hb : ¬ Fn N b) : Jn N (lk ρ b a) P := by
  intro i j di dj hi hj hfi hfj hs
  have nb : ∀ {k : Nat} {d : Nd}, N[k]? = some d → d.fn.size ≠ 0 → ρ k ≠ b := fun hk hf e => hb (by have := ht.fn _ ⟨_, hk, hf⟩; rwa [e] at this)
  have hij : ρ i = ρ j := by
    rcases lk_cases hs with h1 | ⟨h1, _⟩ | ⟨_, h1⟩
    · exact h1
    · exact absurd h1 (nb hi hfi)
    · exact absurd h1 (nb hj hfj)
  obtain ⟨h1, h2, h3⟩ := h i j di dj hi hj hfi hfj hij
  refine ⟨h1, h2, fun k x y hx hy => (h3 k x y hx hy).mono (fun i j e => .same (lk_same e)) (fun i j hm => ?_)⟩
  rcases List.mem_cons.1 hm with e | hm
  · cases e
    rcases hp with ⟨h4, h5⟩ | ⟨h4, h5⟩
    · exact .same (lk_pair h4 h5)
    · exact (Cl.same (lk_pair h5 h4)).symm
  · exact .pair hm

/-- Two classes of functions that fit. -/
theorem Jn.fns {N : List Nd} {ρ : Nat → Nat} {P : List (Nat × Nat)} {p q a b : Nat} (h : Jn N ρ ((p, q) :: P)) (hp : ρ p = a) (hq : ρ q = b) (ha : ρ a = a) (hb : ρ b = b) {da db : Nd} (hda : N[a]? = some da) (hdb : N[b]? = some db) (hfa : da.fn.size ≠ 0) (hfb : db.fn.size ≠ 0) (hfn : da.fn = db.fn) (hlen : da.args.length = db.args.length) : Jn N (lk ρ b a) (da.args.zip db.args ++ P) := by
  have up : ∀ {x y : Nat}, Cl ρ ((p, q) :: P) x y → Cl (lk ρ b a) (da.args.zip db.args ++ P) x y := fun hc => hc.mono (fun i j e => .same (lk_same e)) (fun i j hm => by
    rcases List.mem_cons.1 hm with e | hm
    · cases e; exact .same (lk_pair hp hq)
    · exact .pair (List.mem_append_right _ hm))
  have zp : ∀ {k x y : Nat}, da.args[k]? = some x → db.args[k]? = some y → Cl (lk ρ b a) (da.args.zip db.args ++ P) x y := fun {k x y} hx hy => .pair (List.mem_append_left _ (List.mem_of_getElem? (i := k) (by rw [List.getElem?_zip_eq_some]; exact ⟨hx, hy⟩)))
  have one : ∀ (i j : Nat) (di dj : Nd), N[i]? = some di → N[j]? = some dj → di.fn.size ≠ 0 → dj.fn.size ≠ 0 → ρ i = b → ρ j = a → di.fn = dj.fn ∧ di.args.length = dj.args.length ∧ ∀ (k x y : Nat), di.args[k]? = some x → dj.args[k]? = some y → Cl (lk ρ b a) (da.args.zip db.args ++ P) x y := by
    intro i j di dj hi hj hfi hfj h1 h2
    obtain ⟨e1, e2, e3⟩ := h i b di db hi hdb hfi hfb (h1.trans hb.symm)
    obtain ⟨g1, g2, g3⟩ := h a j da dj hda hj hfa hfj (ha.trans h2.symm)
    refine ⟨e1.trans (hfn.symm.trans g1), by omega, fun k x y hx hy => ?_⟩
    have hk1 : k < di.args.length := (List.getElem?_eq_some_iff.1 hx).1
    have hkb : k < db.args.length := by omega
    have hka : k < da.args.length := by omega
    have hb' := List.getElem?_eq_getElem hkb
    have ha' := List.getElem?_eq_getElem hka
    exact ((up (e3 k x _ hx hb')).trans (zp ha' hb').symm).trans (up (g3 k _ y ha' hy))
  intro i j di dj hi hj hfi hfj hs
  rcases lk_cases hs with h1 | ⟨h1, h2⟩ | ⟨h1, h2⟩
  · obtain ⟨e1, e2, e3⟩ := h i j di dj hi hj hfi hfj h1
    exact ⟨e1, e2, fun k x y hx hy => up (e3 k x y hx hy)⟩
  · exact one i j di dj hi hj hfi hfj h1 h2
  · obtain ⟨e1, e2, e3⟩ := one j i dj di hj hi hfj hfi h2 h1
    exact ⟨e1.symm, e2.symm, fun k x y hx hy => (e3 k y x hy hx).symm⟩

/-- What is one already need not be joined. -/
theorem Jn.done {N : List Nd} {ρ : Nat → Nat} {P : List (Nat × Nat)} {p q : Nat} (h : Jn N ρ ((p, q) :: P)) (hs : ρ p = ρ q) : Jn N ρ P := by
  intro i j di dj hi hj hfi hfj hij
  obtain ⟨e1, e2, e3⟩ := h i j di dj hi hj hfi hfj hij
  refine ⟨e1, e2, fun k x y hx hy => (e3 k x y hx hy).mono (fun i j e => .same e) (fun i j hm => ?_)⟩
  rcases List.mem_cons.1 hm with e | hm
  · cases e; exact .same hs
  · exact .pair hm

/-- How many tops there are. -/
def tops (ρ : Nat → Nat) (n : Nat) : Nat := (List.range n).countP fun i => decide (ρ i = i)

theorem lk_tops {ρ : Nat → Nat} {n b a : Nat} (hb : ρ b = b) (hbn : b < n) (hne : a ≠ b) (ha : ρ a = a) : tops (lk ρ b a) n < tops ρ n := by
  have hle : ∀ i, lk ρ b a i = i → ρ i = i := fun i h => by
    unfold lk at h
    split at h
    · rw [← h, ha]
    · exact h
  have hno : lk ρ b a b ≠ b := by unfold lk; rw [if_pos hb]; exact hne
  unfold tops
  have : ∀ (l : List Nat), b ∈ l → l.countP (fun i => decide (lk ρ b a i = i)) < l.countP (fun i => decide (ρ i = i)) := by
    intro l
    induction l with
    | nil => intro h; cases h
    | cons x r ih =>
      intro hm
      have mono : r.countP (fun i => decide (lk ρ b a i = i)) ≤ r.countP (fun i => decide (ρ i = i)) := List.countP_mono_left fun i _ h => decide_eq_true (hle i (of_decide_eq_true h))
      rw [List.countP_cons, List.countP_cons]
      rcases List.mem_cons.1 hm with rfl | hm
      · rw [if_neg (by simpa using hno), if_pos (by simpa using hb)]
        omega
      · have := ih hm
        by_cases h1 : lk ρ b a x = x
        · rw [if_pos (by simpa using h1), if_pos (by simpa using hle x h1)]
          omega
        · rw [if_neg (by simpa using h1)]
          omega
  exact this _ (List.mem_range.2 hbn)

/-- Terms for the nodes, as functions are made. -/
def Val (N : List Nd) (V : Nat → T) : Prop := ∀ (i : Nat) (d : Nd), N[i]? = some d → d.fn.size ≠ 0 → V i = .mk 0 d.fn (d.args.map V)
/-- One term for each class. -/
def Kp (ρ : Nat → Nat) (V : Nat → T) : Prop := ∀ i j, ρ i = ρ j → V i = V j

theorem Kp.lk {ρ : Nat → Nat} {V : Nat → T} (h : Kp ρ V) {a b p q : Nat} (hp : ρ a = p ∧ ρ b = q ∨ ρ a = q ∧ ρ b = p) (hab : V a = V b) : Kp (lk ρ q p) V := by
  have key : ∀ i j, ρ i = q → ρ j = p → V i = V j := fun i j hi hj => by
    rcases hp with ⟨h1, h2⟩ | ⟨h1, h2⟩
    · exact ((h i b (hi.trans h2.symm)).trans hab.symm).trans (h a j (h1.trans hj.symm))
    · exact ((h i a (hi.trans h1.symm)).trans hab).trans (h b j (h2.trans hj.symm))
  intro i j e
  rcases lk_cases e with e | ⟨h1, h2⟩ | ⟨h1, h2⟩
  · exact h i j e
  · exact key i j h1 h2
  · exact (key j i h2 h1).symm

theorem Val.args {N : List Nd} {V : Nat → T} (h : Val N V) {p q : Nat} {dp dq : Nd} (hp : N[p]? = some dp) (hq : N[q]? = some dq) (fp : dp.fn.size ≠ 0) (fq : dq.fn.size ≠ 0) (e : V p = V q) : dp.fn = dq.fn ∧ dp.args.length = dq.args.length ∧ ∀ x ∈ dp.args.zip dq.args, V x.1 = V x.2 := by
  rw [h p dp hp fp, h q dq hq fq] at e
  have e1 := congrArg T.fn e
  have e2 : dp.args.map V = dq.args.map V := congrArg T.args e
  have hl : dp.args.length = dq.args.length := by have := congrArg List.length e2; simpa using this
  refine ⟨e1, hl, fun x hx => ?_⟩
  obtain ⟨k, hk, rfl⟩ := List.getElem_of_mem hx
  rw [List.length_zip] at hk
  have e3 : (dp.args.map V)[k]? = (dq.args.map V)[k]? := by rw [e2]
  rw [List.getElem?_map, List.getElem?_map, List.getElem?_eq_getElem (by omega), List.getElem?_eq_getElem (by omega)] at e3
  rw [List.getElem_zip]
  exact Option.some.inj e3

/-- Node i stands for term t. -/
inductive Rep (N : List Nd) : Nat → T → Prop
  | mk (i : Nat) (t : T) (d : Nd) (h : N[i]? = some d) (hf : d.fn = t.fn) (hv : t.fn.size = 0 → d.v = t.v) (hl : t.fn.size ≠ 0 → d.args.length = t.args.length)
      (ha : t.fn.size ≠ 0 → ∀ (k a : Nat) (x : T), d.args[k]? = some a → t.args[k]? = some x → Rep N a x) : Rep N i t

end Go.Proofs.Ytblfbmdnkgebdaa.Dn

/-
  A net in memory.
-/
namespace Go.Proofs.Ytblfbmdnkgebdaa.Dn
open Go.RowKit Go.Maps

/-- Numbers that are read, in a block of which P holds. -/
def IntsP (P : Nat → Prop) (W : World) (v : Value) (l : List Int) : Prop :=
  ∃ a c, v = .slice a l.length c ∧ l.length ≤ c ∧ c ≤ 9223372036854775807 ∧ (0 < l.length → ∃ b o, a = some ⟨b, o, none⟩ ∧ b < W.heap.size ∧ P b ∧ ∀ i (h : i < l.length), W.cell? ⟨b, o + i, none⟩ = some (.int .i64 l[i]))

theorem IntsP.keep {P Q : Nat → Prop} {W W' : World} {v : Value} {l : List Int} (h : IntsP P W v l) (hs : W.heap.size ≤ W'.heap.size) (hk : ∀ b, P b → b < W.heap.size → Q b ∧ W'.heap[b]? = W.heap[b]?) : IntsP Q W' v l := by
  obtain ⟨a, c, rfl, h1, h2, h3⟩ := h
  refine ⟨a, c, rfl, h1, h2, fun h0 => ?_⟩
  obtain ⟨b, o, rfl, hlt, hP, h4⟩ := h3 h0
  obtain ⟨hQ, hb⟩ := hk b hP hlt
  refine ⟨b, o, rfl, by omega, hQ, fun i hi => ?_⟩
  rw [← h4 i hi]
  simp [World.cell?, hb]

theorem IntsP.slice {P : Nat → Prop} {W : World} {v : Value} {l : List Int} (h : IntsP P W v l) : ∃ a c, v = .slice a l.length c := by
  obtain ⟨a, c, rfl, _⟩ := h
  exact ⟨a, c, rfl⟩

theorem IntsP.nth {P : Nat → Prop} {W : World} {a : Option Addr} {c n : Nat} {l : List Int} (h : IntsP P W (.slice a n c) l) {i : Nat} (hi : i < l.length) : ∃ b o, a = some ⟨b, o, none⟩ ∧ b < W.heap.size ∧ P b ∧ W.cell? ⟨b, o + i, none⟩ = some (.int .i64 l[i]) := by
  obtain ⟨a', c', e, h1, h2, h3⟩ := h
  cases e
  obtain ⟨b, o, rfl, hlt, hP, h4⟩ := h3 (by omega)
  exact ⟨b, o, rfl, hlt, hP, h4 i hi⟩

/-- The numbers of nodes. -/
abbrev ints (l : List Nat) : List Int := l.map Int.ofNat

/-- A net: its box B, its row in block g. -/
structure Net (W : World) (B g c : Nat) (N : List Nd) (up : Nat → Nat) (av : Nat → Value) : Prop where
  box : W.heap[B]? = some (.cells #[.slice (some ⟨g, 0, none⟩) N.length c] 56 (0, 0))
  row : ∃ cur, W.heap[g]? = some (.cells cur 65 (0, 0)) ∧ ∀ i (h : i < N.length), cur[i * 4]? = some (.int .i64 N[i].v) ∧ cur[i * 4 + 1]? = some (.string N[i].fn) ∧ cur[i * 4 + 2]? = some (av i) ∧ cur[i * 4 + 3]? = some (.int .i64 (up i : Nat))
  args : ∀ i (h : i < N.length), IntsP (fun b => b ≠ g ∧ b ≠ B) W (av i) (ints N[i].args)
  ne : B ≠ g
  below : ∀ i (h : i < N.length), ∀ a ∈ N[i].args, a < N.length
  len : N.length ≤ 1048576

section
variable {W W' : World} {B g c : Nat} {N : List Nd} {up : Nat → Nat} {av : Nat → Value}

theorem Net.blt (h : Net W B g c N up av) : B < W.heap.size ∧ g < W.heap.size := by
  obtain ⟨cur, hg, _⟩ := h.row
  exact ⟨(Array.getElem?_eq_some_iff.1 h.box).1, (Array.getElem?_eq_some_iff.1 hg).1⟩

theorem Net.keep (h : Net W B g c N up av) (hb : Below W.heap.size W W') : Net W' B g c N up av := by
  obtain ⟨hB, hg⟩ := h.blt
  obtain ⟨cur, h1, h2⟩ := h.row
  exact ⟨(hb.block B hB).trans h.box, ⟨cur, (hb.block g hg).trans h1, h2⟩, fun i hi => (h.args i hi).keep hb.size (fun b hP hlt => ⟨hP, hb.block b hlt⟩), h.ne, h.below, h.len⟩

/-- Kept where the blocks of the net are. -/
theorem Net.keepB (h : Net W B g c N up av) (hs : W.heap.size ≤ W'.heap.size) (hk : ∀ b, b < W.heap.size → W'.heap[b]? = W.heap[b]?) : Net W' B g c N up av := by
  obtain ⟨hB, hg⟩ := h.blt
  obtain ⟨cur, h1, h2⟩ := h.row
  exact ⟨(hk B hB).trans h.box, ⟨cur, (hk g hg).trans h1, h2⟩, fun i hi => (h.args i hi).keep hs (fun b hP hlt => ⟨hP, hk b hlt⟩), h.ne, h.below, h.len⟩

/-- What is read of the box. -/
theorem Net.bcell (h : Net W B g c N up av) : W.cell? ⟨B, 0, none⟩ = some (.slice (some ⟨g, 0, none⟩) N.length c) ∧ W.frozen? ⟨B, 0, none⟩ = false := by
  refine ⟨?_, by simp [World.frozen?, h.box]⟩
  simp [World.cell?, h.box]

/-- What is read of a node. -/
theorem Net.cells (h : Net W B g c N up av) {i : Nat} (hi : i < N.length) : W.cell? ⟨g, i * 4, none⟩ = some (.int .i64 N[i].v) ∧ W.cell? ⟨g, i * 4 + 1, none⟩ = some (.string N[i].fn) ∧ W.cell? ⟨g, i * 4 + 2, none⟩ = some (av i) ∧ W.cell? ⟨g, i * 4 + 3, none⟩ = some (.int .i64 (up i : Nat)) ∧ W.frozen? ⟨g, i * 4 + 3, none⟩ = false := by
  obtain ⟨cur, h1, h2⟩ := h.row
  obtain ⟨c0, c1, c2, c3⟩ := h2 i hi
  refine ⟨?_, ?_, ?_, ?_, by simp [World.frozen?, h1]⟩
  · simp [World.cell?, h1, c0]
  · simp [World.cell?, h1, c1]
  · simp [World.cell?, h1, c2]
  · simp [World.cell?, h1, c3]

/-- Node b goes under a. -/
def upd1 (up : Nat → Nat) (b a : Nat) : Nat → Nat := fun i => if i = b then a else up i

theorem Net.set (h : Net W B g c N up av) {b : Nat} (hb : b < N.length) (a : Nat) : Net (W.setCell ⟨g, b * 4 + 3, none⟩ (.int .i64 (a : Nat))) B g c N (upd1 up b a) av := by
  obtain ⟨cur, h1, h2⟩ := h.row
  have hg := heap_setCell_same W g (b * 4 + 3) cur 65 (.int .i64 (a : Nat)) h1
  have ho : ∀ k, k ≠ g → (W.setCell ⟨g, b * 4 + 3, none⟩ (.int .i64 (a : Nat))).heap[k]? = W.heap[k]? := fun k hk => Below.heap_setCell _ _ _ k hk
  refine ⟨(ho B h.ne).trans h.box, ⟨_, hg, fun i hi => ?_⟩, fun i hi => (h.args i hi).keep (by simp) (fun k hP _ => ⟨hP, ho k hP.1⟩), h.ne, h.below, h.len⟩
  obtain ⟨c0, c1, c2, c3⟩ := h2 i hi
  have hs : b * 4 + 3 < cur.size := (Array.getElem?_eq_some_iff.1 (h2 b hb).2.2.2).1
  refine ⟨?_, ?_, ?_, ?_⟩
  · rw [Array.getElem?_setIfInBounds_ne (by omega)]; exact c0
  · rw [Array.getElem?_setIfInBounds_ne (by omega)]; exact c1
  · rw [Array.getElem?_setIfInBounds_ne (by omega)]; exact c2
  · unfold upd1
    by_cases e : i = b
    · subst e
      rw [if_pos rfl, Array.getElem?_setIfInBounds_self_of_lt hs]
    · rw [if_neg e, Array.getElem?_setIfInBounds_ne (by omega)]; exact c3
end

/-- The tops, by what is above. -/
structure Up (n : Nat) (up ρ r : Nat → Nat) (K : Nat) : Prop where
  lt : ∀ i, i < n → up i < n
  top : ∀ i, i < n → ρ (up i) = ρ i
  root : ∀ i, i < n → (up i = i ↔ ρ i = i)
  rank : ∀ i, i < n → up i ≠ i → r i < r (up i)
  bd : ∀ i, r i ≤ K

theorem Up.link {n : Nat} {up ρ r : Nat → Nat} {K : Nat} (h : Up n up ρ r K) {a b : Nat} (ha : a < n) (hb : b < n) (hra : ρ a = a) (hrb : ρ b = b) (hne : a ≠ b) (_hid : ∀ i, i < n → ρ (ρ i) = ρ i) : ∃ r', Up n (upd1 up b a) (lk ρ b a) r' (K + 1) := by
  have hua : up a = a := (h.root a ha).2 hra
  refine ⟨fun i => if i = a then K + 1 else r i, fun i hi => ?_, fun i hi => ?_, fun i hi => ?_, fun i hi hn => ?_, fun i => ?_⟩
  · unfold upd1
    split
    · exact ha
    · exact h.lt i hi
  · unfold upd1
    split
    · rename_i e
      subst e
      unfold lk
      rw [if_pos hrb, hra, if_neg hne]
    · unfold lk
      rw [h.top i hi]
  · unfold upd1 lk
    by_cases e : i = b
    · subst e
      rw [if_pos rfl, if_pos hrb]
    · rw [if_neg e]
      by_cases e2 : ρ i = b
      · rw [if_pos e2]
        constructor
        · intro h3
          have := (h.root i hi).1 h3
          omega
        · intro h3
          subst h3
          rw [hra] at e2
          exact absurd e2 hne
      · rw [if_neg e2]
        exact h.root i hi
  · unfold upd1 at hn ⊢
    by_cases e : i = b
    · subst e
      rw [if_pos rfl, if_pos rfl, if_neg (fun e => hne e.symm)]
      have := h.bd i
      omega
    · rw [if_neg e] at hn ⊢
      have h1 : i ≠ a := fun e2 => hn (by rw [e2]; exact hua)
      rw [if_neg h1]
      have := h.rank i hi hn
      split
      · have := h.bd i; omega
      · exact this
  · split
    · omega
    · have := h.bd i; omega

end Go.Proofs.Ytblfbmdnkgebdaa.Dn

/-
  The node above all others of its class.
-/
namespace Go.Proofs.Ytblfbmdnkgebdaa.Dn
open Go.RowKit Go.Maps

set_option maxRecDepth 100000 in
set_option maxHeartbeats 8000000 in
theorem top_any {B g c : Nat} {N : List Nd} {up ρ r : Nat → Nat} {K : Nat} {av : Nat → Value} (W : World) (hN : Net W B g c N up av) (hU : Up N.length up ρ r K) (i : Nat) (hi : i < N.length) :
    Calls Try.prog 35 #[.pointer (some ⟨B, 0, none⟩), .int .i64 (i : Nat)] W fun e W' => e = .returned (.int .i64 (ρ i : Nat)) ∧ Below W.heap.size W W' := by
  have HN : Hid (∀ Z, Below W.heap.size W Z → Net Z B g c N up av) := fun Z hZ => hN.keep hZ
  have HU : Hid (Up N.length up ρ r K) := hU
  have HI0 : Hid (i < N.length) := hi
  clear hN hU hi
  go_enter Try.func35, Try.ntmps35
  go_wp2
  go_loopw [1] (fun vi wr => ∃ j : Nat, vi = .int .i64 j ∧ Hid (j < N.length ∧ ρ j = ρ i ∧ Below W.heap.size W wr)) (fun vi _ => K - r (intOf vi).toNat)
  case atStart => exact ⟨i, rfl, HI0.out, rfl, Below.refl _ _⟩
  case round =>
    obtain ⟨j, rfl, HI⟩ := hrel
    have hz := HN.out wr HI.out.2.2
    have hj := HI.out.1
    obtain ⟨bx, _⟩ := hz.bcell
    obtain ⟨_, _, _, c3, _⟩ := hz.cells hj
    have hjI : (j : Int) < (N.length : Int) := by omega
    have hn0 : (0 : Int) ≤ (j : Int) := by omega
    obtain ⟨u, hu⟩ : ∃ u, up j = u := ⟨_, rfl⟩
    rw [hu] at c3
    by_cases hs : u = j
    · subst hs
      have HE : Hid (ρ u = ρ i ∧ Below W.heap.size W wr) := ⟨HI.out.2.1, HI.out.2.2⟩
      have HT : Hid (ρ u = u) := (HU.out.root u hj).1 hu
      clear hz HI hu
      go_wp2
      go_ret
      refine ⟨?_, HE.out.2⟩
      rw [← HE.out.1, HT.out]
      rfl
    · have hsI : ¬ ((u : Int) = (j : Int)) := by omega
      have HE : Hid (u < N.length ∧ ρ u = ρ i ∧ Below W.heap.size W wr ∧ r j < r u ∧ r u ≤ K) := by
        have h1 := HU.out.rank j hj (by rw [hu]; exact hs)
        have h2 := HU.out.lt j hj
        have h3 := HU.out.top j hj
        rw [hu] at h1 h2 h3
        exact ⟨h2, h3.trans HI.out.2.1, HI.out.2.2, h1, HU.out.bd u⟩
      clear hz HI hu
      go_wp2
      go_roundw
      case rel => exact ⟨u, rfl, HE.out.1, HE.out.2.1, HE.out.2.2.1⟩
      case measure =>
        have := HE.out.2.2.2
        simp [intOf]
        omega

end Go.Proofs.Ytblfbmdnkgebdaa.Dn

/-
  Joining two classes.
-/
namespace Go.Proofs.Ytblfbmdnkgebdaa.Dn
open Go.RowKit Go.Maps

theorem Try.info101z : (Try.prog.info? 65).map (·.size) = some 4 := by kernel_rfl

/-- A node's cells. -/
def ncs (v : Int) (f : ByteArray) (s : Value) (u : Nat) : List Value := [.int .i64 v, .string f, s, .int .i64 (u : Nat)]
abbrev nval (v : Int) (f : ByteArray) (s : Value) (u : Nat) : Value := .agg #[.int .i64 v, .string f, s, .int .i64 (u : Nat)]
theorem ones4 (v : Int) (f : ByteArray) (a : Option Addr) (n c u : Nat) : ∀ x ∈ ncs v f (.slice a n c) u, x.oneCell' = true := by
  intro x hx
  simp only [ncs, List.mem_cons, List.not_mem_nil, or_false] at hx
  rcases hx with rfl | rfl | rfl | rfl <;> rfl

theorem ko {B : List Nat} {W Z : World} (h : Only B W Z) {b o : Nat} {v : Value} (hb : b < W.heap.size) (hn : b ∉ B) (hc : W.cell? ⟨b, o, none⟩ = some v) : Z.cell? ⟨b, o, none⟩ = some v := by
  rw [← hc]
  simp [World.cell?, h.block b hb hn]
theorem cell_at {W : World} {b o : Nat} {l : Array Value} {ty : TypeId} {v : Value} (h : W.heap[b]? = some (.cells l ty (0, 0))) (hv : l[o]? = some v) : W.cell? ⟨b, o, none⟩ = some v := by
  simp [World.cell?, h, hv]

theorem Net.arg {W : World} {B g c : Nat} {N : List Nd} {up : Nat → Nat} {av : Nat → Value} (h : Net W B g c N up av) {i : Nat} {d : Nd} (hi : N[i]? = some d) : ∃ a cc, av i = .slice a d.args.length cc ∧ d.args.length ≤ 9223372036854775807 ∧ ∀ k (hk : k < d.args.length), ∃ bb o, a = some ⟨bb, o, none⟩ ∧ bb < W.heap.size ∧ bb ≠ g ∧ bb ≠ B ∧ W.cell? ⟨bb, o + k, none⟩ = some (.int .i64 (d.args[k] : Nat)) := by
  obtain ⟨hl, rfl⟩ := List.getElem?_eq_some_iff.1 hi
  have ha := h.args i hl
  obtain ⟨a, cc, e⟩ := ha.slice
  rw [List.length_map] at e
  have hlen : N[i].args.length ≤ 9223372036854775807 := by
    obtain ⟨_, c2, _, h1, h2, _⟩ := ha
    rw [List.length_map] at h1
    omega
  refine ⟨a, cc, e, hlen, fun k hk => ?_⟩
  rw [e] at ha
  obtain ⟨bb, o, h1, h2, h3, h4⟩ := ha.nth (i := k) (by simpa using hk)
  exact ⟨bb, o, h1, h2, h3.1, h3.2, by rw [h4, List.getElem_map]; rfl⟩

theorem Net.kept {W W' : World} {B g c : Nat} {N : List Nd} {up : Nat → Nat} {av : Nat → Value} (h : Net W B g c N up av) {n : Nat} (hb : Below n W W') (hn : W.heap.size ≤ n) : Net W' B g c N up av := h.keep (hb.mono hn)

/-- What joining gives. -/
def JoinP (W : World) (B g c : Nat) (N : List Nd) (ρ : Nat → Nat) (av : Nat → Value) (a b : Nat) (e : Ending) (W' : World) : Prop :=
  ∃ (z : Bool) (up' ρ' r' : Nat → Nat) (K' : Nat), e = .returned (.bool z) ∧ Net W' B g c N up' av ∧ Up N.length up' ρ' r' K' ∧ Tp N ρ' ∧ Only [g] W W' ∧ tops ρ' N.length ≤ tops ρ N.length ∧
    (z = true → (∀ P, Jn N ρ ((a, b) :: P) → Jn N ρ' P) ∧ (∀ i j, ρ i = ρ j → ρ' i = ρ' j) ∧ ρ' a = ρ' b) ∧
    (∀ V, Val N V → Kp ρ V → V a = V b → z = true ∧ Kp ρ' V)

theorem joinP_no {W W' : World} {B g c : Nat} {N : List Nd} {up ρ r : Nat → Nat} {K : Nat} {av : Nat → Value} {a b : Nat} (hN : Net W' B g c N up av) (hU : Up N.length up ρ r K) (hT : Tp N ρ) (hO : Only [g] W W') (hno : ∀ V, Val N V → Kp ρ V → V a = V b → False) : JoinP W B g c N ρ av a b (.returned (.bool false)) W' :=
  ⟨false, up, ρ, r, K, rfl, hN, hU, hT, hO, Nat.le_refl _, fun h => (by cases h), fun V h1 h2 h3 => (hno V h1 h2 h3).elim⟩

theorem no_val {N : List Nd} {ρ : Nat → Nat} {a b p q : Nat} (hp : ρ a = p) (hq : ρ b = q) (hpp : ρ p = p) (hqq : ρ q = q) {dp dq : Nd} (hdp : N[p]? = some dp) (hdq : N[q]? = some dq) (fp : dp.fn.size ≠ 0) (fq : dq.fn.size ≠ 0) (hne : ¬ (dp.fn = dq.fn ∧ dp.args.length = dq.args.length)) (V : Nat → T) (h1 : Val N V) (h2 : Kp ρ V) (h3 : V a = V b) : False := by
  have e : V p = V q := ((h2 p a (hpp.trans hp.symm)).trans h3).trans (h2 b q (hq.trans hqq.symm))
  obtain ⟨k1, k2, _⟩ := h1.args hdp hdq fp fq e
  exact hne ⟨k1, k2⟩

theorem joinP_same {W W' : World} {B g c : Nat} {N : List Nd} {up ρ r : Nat → Nat} {K : Nat} {av : Nat → Value} {a b : Nat} (hN : Net W' B g c N up av) (hU : Up N.length up ρ r K) (hT : Tp N ρ) (hO : Only [g] W W') (hs : ρ a = ρ b) : JoinP W B g c N ρ av a b (.returned (.bool true)) W' :=
  ⟨true, up, ρ, r, K, rfl, hN, hU, hT, hO, Nat.le_refl _, fun _ => ⟨fun _ h => h.done hs, fun _ _ h => h, hs⟩, fun _ _ h2 _ => ⟨rfl, h2⟩⟩

/-- Class q, without functions, goes under p. -/
theorem joinP_var {W W' : World} {B g c : Nat} {N : List Nd} {up ρ r : Nat → Nat} {K : Nat} {av : Nat → Value} {a b p q : Nat} (hN : Net W' B g c N up av) (hU : Up N.length up ρ r K) (hT : Tp N ρ) (hO : Only [g] W W') (hp : ρ a = p ∧ ρ b = q ∨ ρ a = q ∧ ρ b = p) (hpp : ρ p = p) (hqq : ρ q = q) (hpl : p < N.length) (hql : q < N.length) (hne : p ≠ q) (hq : ¬ Fn N q) (hle : ∀ da db : Nd, N[p]? = some da → N[q]? = some db → da.fn.size = 0 → da.v ≤ db.v) : JoinP W B g c N ρ av a b (.returned (.bool true)) (W'.setCell ⟨g, q * 4 + 3, none⟩ (.int .i64 (p : Nat))) := by
  obtain ⟨r', hU'⟩ := hU.link hpl hql hpp hqq hne (fun i _ => hT.idem i)
  refine ⟨true, upd1 up q p, lk ρ q p, r', K + 1, rfl, hN.set hql p, hU', lk_top hT hpp hpl (fun h => absurd h hq) hle, hO.trans (only_setCell _ _ _ _) (fun r hr => .inl hr), Nat.le_of_lt (lk_tops hqq hql hne hpp), fun _ => ⟨fun P h => h.var hT hp hpp hq, fun i j h => lk_same h, ?_⟩, fun V h1 h2 h3 => ⟨rfl, h2.lk hp h3⟩⟩
  rcases hp with ⟨h1, h2⟩ | ⟨h1, h2⟩
  · exact lk_pair h1 h2
  · exact (lk_pair h2 h1).symm

theorem not_fn {N : List Nd} {i : Nat} {d : Nd} (h : N[i]? = some d) (h0 : d.fn.size = 0) : ¬ Fn N i := by
  rintro ⟨d', h', hf⟩
  rw [h] at h'
  cases h'
  exact hf h0

/-- What the loop over the arguments keeps. -/
def JoinL (W W' : World) (B g c : Nat) (N : List Nd) (ρ : Nat → Nat) (av : Nat → Value) (a b m : Nat) (zs : List (Nat × Nat)) : Prop :=
  ∃ (up' ρ' r' : Nat → Nat) (K' : Nat), Net W' B g c N up' av ∧ Up N.length up' ρ' r' K' ∧ Tp N ρ' ∧ Only [g] W W' ∧ tops ρ' N.length < m ∧ tops ρ' N.length ≤ tops ρ N.length ∧
    (∀ P, Jn N ρ ((a, b) :: P) → Jn N ρ' (zs ++ P)) ∧ (∀ i j, ρ i = ρ j → ρ' i = ρ' j) ∧ ρ' a = ρ' b ∧
    (∀ V, Val N V → Kp ρ V → V a = V b → Kp ρ' V ∧ ∀ x ∈ zs, V x.1 = V x.2)

theorem joinL_first {W W' : World} {B g c : Nat} {N : List Nd} {up ρ r : Nat → Nat} {K : Nat} {av : Nat → Value} {a b p q m : Nat} (hN : Net W' B g c N up av) (hU : Up N.length up ρ r K) (hT : Tp N ρ) (hO : Only [g] W W') (h1 : ρ a = p) (h2 : ρ b = q) (hpp : ρ p = p) (hqq : ρ q = q) (hpl : p < N.length) (hql : q < N.length) (hne : p ≠ q) {dp dq : Nd} (hp : N[p]? = some dp) (hq : N[q]? = some dq) (hfp : dp.fn.size ≠ 0) (hfq : dq.fn.size ≠ 0) (hfn : dp.fn = dq.fn) (hl : dp.args.length = dq.args.length) (hm : tops ρ N.length < m + 1) : JoinL W (W'.setCell ⟨g, q * 4 + 3, none⟩ (.int .i64 (p : Nat))) B g c N ρ av a b m (dp.args.zip dq.args) := by
  obtain ⟨r', hU'⟩ := hU.link hpl hql hpp hqq hne (fun i _ => hT.idem i)
  have ht := lk_tops (ρ := ρ) hqq hql hne hpp
  exact ⟨upd1 up q p, lk ρ q p, r', K + 1, hN.set hql p, hU', lk_top hT hpp hpl (fun _ => ⟨dp, hp, hfp⟩) (fun da db h1 _ h3 => by rw [hp] at h1; cases h1; exact absurd h3 hfp), hO.trans (only_setCell _ _ _ _) (fun r hr => .inl hr), by omega, Nat.le_of_lt ht, fun P h => h.fns h1 h2 hpp hqq hp hq hfp hfq hfn hl, fun i j h => lk_same h, lk_pair h1 h2, fun V v1 v2 v3 => ⟨v2.lk (.inl ⟨h1, h2⟩) v3, (v1.args hp hq hfp hfq (((v2 p a (hpp.trans h1.symm)).trans v3).trans (v2 b q (h2.trans hqq.symm)))).2.2⟩⟩

theorem joinL_next {W W1 W' : World} {B g c : Nat} {N : List Nd} {ρ ρ1 : Nat → Nat} {av : Nat → Value} {a b m x y : Nat} {zs : List (Nat × Nat)} (hO : Only [g] W W1) (ht : tops ρ1 N.length < m) (ht2 : tops ρ1 N.length ≤ tops ρ N.length) (hJ : ∀ P, Jn N ρ ((a, b) :: P) → Jn N ρ1 ((x, y) :: zs ++ P)) (hS : ∀ i j, ρ i = ρ j → ρ1 i = ρ1 j) (hab : ρ1 a = ρ1 b) (hV : ∀ V, Val N V → Kp ρ V → V a = V b → Kp ρ1 V ∧ ∀ u ∈ (x, y) :: zs, V u.1 = V u.2) (h : JoinP W1 B g c N ρ1 av x y (.returned (.bool true)) W') : JoinL W W' B g c N ρ av a b m zs := by
  obtain ⟨z, up', ρ', r', K', e, hN, hU, hT, hO', ht', hz, hs⟩ := h
  cases e
  obtain ⟨j1, j2, j3⟩ := hz rfl
  exact ⟨up', ρ', r', K', hN, hU, hT, hO.trans hO' (fun r hr => .inl hr), by omega, by omega, fun P h => j1 _ (hJ P h), fun i j h => j2 i j (hS i j h), j2 _ _ hab, fun V v1 v2 v3 => by
    obtain ⟨q1, q2⟩ := hV V v1 v2 v3
    exact ⟨(hs V v1 q1 (q2 (x, y) List.mem_cons_self)).2, fun u hu => q2 u (List.mem_cons_of_mem _ hu)⟩⟩

theorem joinL_out {W W1 W' : World} {B g c : Nat} {N : List Nd} {ρ ρ1 : Nat → Nat} {av : Nat → Value} {a b x y : Nat} (hO : Only [g] W W1) (ht2 : tops ρ1 N.length ≤ tops ρ N.length) {zs : List (Nat × Nat)} (hV : ∀ V, Val N V → Kp ρ V → V a = V b → Kp ρ1 V ∧ ∀ u ∈ (x, y) :: zs, V u.1 = V u.2) (h : JoinP W1 B g c N ρ1 av x y (.returned (.bool false)) W') : JoinP W B g c N ρ av a b (.returned (.bool false)) W' := by
  obtain ⟨z, up', ρ', r', K', e, hN, hU, hT, hO', ht', hz, hs⟩ := h
  cases e
  exact ⟨false, up', ρ', r', K', rfl, hN, hU, hT, hO.trans hO' (fun r hr => .inl hr), by omega, fun h => (by cases h), fun V v1 v2 v3 => by
    obtain ⟨q1, q2⟩ := hV V v1 v2 v3
    cases (hs V v1 q1 (q2 (x, y) List.mem_cons_self)).1⟩

theorem joinL_done {W W' : World} {B g c : Nat} {N : List Nd} {ρ : Nat → Nat} {av : Nat → Value} {a b m : Nat} (h : JoinL W W' B g c N ρ av a b m []) : JoinP W B g c N ρ av a b (.returned (.bool true)) W' := by
  obtain ⟨up', ρ', r', K', hN, hU, hT, hO, _, ht, hJ, hS, hab, hV⟩ := h
  exact ⟨true, up', ρ', r', K', rfl, hN, hU, hT, hO, ht, fun _ => ⟨hJ, hS, hab⟩, fun V v1 v2 v3 => ⟨rfl, (hV V v1 v2 v3).1⟩⟩

theorem JoinP.bool {W W' : World} {B g c : Nat} {N : List Nd} {ρ : Nat → Nat} {av : Nat → Value} {a b : Nat} {e : Ending} (h : JoinP W B g c N ρ av a b e W') : ∃ z : Bool, e = .returned (.bool z) ∧ Only [g] W W' := by
  obtain ⟨z, _, _, _, _, e, _, _, _, hO, _⟩ := h
  exact ⟨z, e, hO⟩

set_option maxRecDepth 100000 in
set_option maxHeartbeats 16000000 in
theorem join_any {B g c : Nat} {N : List Nd} {av : Nat → Value} : ∀ (m : Nat) (up ρ r : Nat → Nat) (K : Nat) (W : World) (a b : Nat), tops ρ N.length < m → Net W B g c N up av → Up N.length up ρ r K → Tp N ρ → a < N.length → b < N.length →
    Calls Try.prog 33 #[.pointer (some ⟨B, 0, none⟩), .int .i64 (a : Nat), .int .i64 (b : Nat)] W (JoinP W B g c N ρ av a b) := by
  intro m
  induction m with
  | zero => intro up ρ r K W a b hm; exact absurd hm (Nat.not_lt_zero _)
  | succ m ih =>
  intro up ρ r K W a b hm hN hU hT ha hb
  have h52 := top_any W hN hU a ha
  have HM : Hid (tops ρ N.length < m + 1) := hm
  have HU : Hid (Up N.length up ρ r K) := hU
  have HT : Hid (Tp N ρ) := hT
  have HN : Hid (∀ Z, Below W.heap.size W Z → Net Z B g c N up av) := fun Z hZ => hN.keep hZ
  have HL0 : Hid (a < N.length ∧ b < N.length) := ⟨ha, hb⟩
  clear hm hN hU hT ha hb
  go_enter Try.func33, Try.ntmps33
  go_wp2_with fail
  refine h52.mono ?_
  rintro e W1 ⟨rfl, b1⟩
  have h53 := top_any W1 (HN.out W1 b1) HU.out b HL0.out.2
  clear h52
  go_wp2_with fail
  refine h53.mono ?_
  rintro e W2 ⟨rfl, b2⟩
  have HB2 : Hid (Below W.heap.size W W2) := b1.trans (b2.mono b1.size)
  have HN2 : Hid (Net W2 B g c N up av) := HN.out W2 HB2.out
  obtain ⟨p, hp⟩ : ∃ p, ρ a = p := ⟨_, rfl⟩
  obtain ⟨q, hq⟩ : ∃ q, ρ b = q := ⟨_, rfl⟩
  have HP : Hid (ρ a = p ∧ ρ b = q ∧ ρ p = p ∧ ρ q = q ∧ p < N.length ∧ q < N.length ∧ True) := by
    refine ⟨hp, hq, ?_, ?_, ?_, ?_, trivial⟩
    · rw [← hp]; exact HT.out.idem a
    · rw [← hq]; exact HT.out.idem b
    · rw [← hp]; exact HT.out.lt a HL0.out.1
    · rw [← hq]; exact HT.out.lt b HL0.out.2
  rw [hp, hq]
  clear b1 b2 h53 hp hq HN
  by_cases hne : p = q
  · subst hne
    go_wp2
    refine bodyPost_ret (v := .bool true) (by simp [results, Try.results33, go_sem]) rfl ?_
    exact joinP_same HN2.out HU.out HT.out (Only.of_below HB2.out) (HP.out.1.trans HP.out.2.1.symm)
  have hneI : ¬ ((p : Int) = (q : Int)) := by omega
  have hpI : (p : Int) < (N.length : Int) := by have := HP.out.2.2.2.2.1; omega
  have hqI : (q : Int) < (N.length : Int) := by have := HP.out.2.2.2.2.2.1; omega
  have hp0 : (0 : Int) ≤ (p : Int) := by omega
  have hq0 : (0 : Int) ≤ (q : Int) := by omega
  obtain ⟨dp, hdp⟩ : ∃ d, N[p]? = some d := ⟨_, List.getElem?_eq_getElem HP.out.2.2.2.2.1⟩
  obtain ⟨dq, hdq⟩ : ∃ d, N[q]? = some d := ⟨_, List.getElem?_eq_getElem HP.out.2.2.2.2.2.1⟩
  have HD : Hid (N[p]? = some dp ∧ N[q]? = some dq) := ⟨hdp, hdq⟩
  obtain ⟨pa, pc, epa, hpm, _⟩ := HN2.out.arg hdp
  obtain ⟨qa, qc, eqa, hqm, _⟩ := HN2.out.arg hdq
  have HV : Hid (av p = .slice pa dp.args.length pc ∧ av q = .slice qa dq.args.length qc) := ⟨epa, eqa⟩
  have ep : N[p]'HP.out.2.2.2.2.1 = dp := (List.getElem?_eq_some_iff.1 hdp).2
  have eq : N[q]'HP.out.2.2.2.2.2.1 = dq := (List.getElem?_eq_some_iff.1 hdq).2
  have HB : Hid ((∀ k (hk : k < dp.args.length), dp.args[k] < N.length) ∧ (∀ k (hk : k < dq.args.length), dq.args[k] < N.length)) := by
    refine ⟨fun k hk => ?_, fun k hk => ?_⟩
    · exact HN2.out.below p HP.out.2.2.2.2.1 _ (by rw [ep]; exact List.getElem_mem hk)
    · exact HN2.out.below q HP.out.2.2.2.2.2.1 _ (by rw [eq]; exact List.getElem_mem hk)
  obtain ⟨u1, hu1⟩ : ∃ u, up p = u := ⟨_, rfl⟩
  obtain ⟨u2, hu2⟩ : ∃ u, up q = u := ⟨_, rfl⟩
  have HX : Hid (∀ Z, Below W2.heap.size W2 Z → Z.cell? ⟨B, 0, none⟩ = some (.slice (some ⟨g, 0, none⟩) N.length c) ∧ (Z.cell? ⟨g, p * 4, none⟩ = some (.int .i64 dp.v) ∧ Z.cell? ⟨g, p * 4 + 1, none⟩ = some (.string dp.fn) ∧ Z.cell? ⟨g, p * 4 + 2, none⟩ = some (.slice pa dp.args.length pc) ∧ Z.cell? ⟨g, p * 4 + 3, none⟩ = some (.int .i64 (u1 : Nat))) ∧ Z.cell? ⟨g, q * 4, none⟩ = some (.int .i64 dq.v) ∧ Z.cell? ⟨g, q * 4 + 1, none⟩ = some (.string dq.fn) ∧ Z.cell? ⟨g, q * 4 + 2, none⟩ = some (.slice qa dq.args.length qc) ∧ Z.cell? ⟨g, q * 4 + 3, none⟩ = some (.int .i64 (u2 : Nat))) := fun Z hZ => by
    have hn := HN2.out.keep hZ
    obtain ⟨k0, k1, k2, k3, _⟩ := hn.cells HP.out.2.2.2.2.1
    obtain ⟨l0, l1, l2, l3, _⟩ := hn.cells HP.out.2.2.2.2.2.1
    rw [ep] at k0 k1
    rw [eq] at l0 l1
    rw [epa] at k2
    rw [eqa] at l2
    rw [hu1] at k3
    rw [hu2] at l3
    exact ⟨hn.bcell.1, ⟨k0, k1, k2, k3⟩, l0, l1, l2, l3⟩
  obtain ⟨Wd, hWd⟩ : ∃ X, W2.drew = X := ⟨_, rfl⟩
  have hd : Below W2.heap.size W2 Wd := by rw [← hWd]; exact (Below.refl _ W2).drew
  have HDw : Hid (Below W2.heap.size W2 Wd) := hd
  clear epa eqa ep eq hu1 hu2 hdp hdq hd
  go_wp2
  refine wp_region_held_drew (S := fun Z => Below W2.heap.size W2 Z) (by kernel_rfl) (by rw [hWd]; exact HDw.out) (fun hHeld => ?_)
  rw [hWd] at hHeld ⊢
  refine take_mk 0 (.pointer (some ⟨B, 0, none⟩)) rfl (by kernel_rfl) (by kernel_rfl) (by kernel_rfl) (fun _ _ _ h => h) (Or.inl ⟨by rfl, fun Z hZ => by go_simp⟩) (by assumption) ?_
  try simp only [Act.put, List.setIfInBounds_toArray, List.set_cons_zero, List.set_cons_succ]
  refine take_mk 1 (.pointer (some ⟨B, 0, none⟩)) rfl (by kernel_rfl) (by kernel_rfl) (by kernel_rfl) (fun _ _ _ h => h) (Or.inl ⟨by rfl, fun Z hZ => by go_simp⟩) (by assumption) ?_
  try simp only [Act.put, List.setIfInBounds_toArray, List.set_cons_zero, List.set_cons_succ]
  refine take_mk 2 (.pointer (some ⟨B, 0, none⟩)) rfl (by kernel_rfl) (by kernel_rfl) (by kernel_rfl) (fun _ _ _ h => h) (Or.inl ⟨by rfl, fun Z hZ => by go_simp⟩) (by assumption) ?_
  try simp only [Act.put, List.setIfInBounds_toArray, List.set_cons_zero, List.set_cons_succ]
  refine take_mk 3 (.slice (some ⟨g, 0, none⟩) N.length c) rfl (by kernel_rfl) (by kernel_rfl) (by kernel_rfl) (fun _ _ _ h => h) (Or.inl ⟨by rfl, fun Z hZ => by obtain ⟨cb, ⟨y0, y1, y2, y3⟩, _⟩ := HX.out Z hZ; go_simp⟩) (by assumption) ?_
  try simp only [Act.put, List.setIfInBounds_toArray, List.set_cons_zero, List.set_cons_succ]
  refine take_mk 4 (.int .i64 (p : Nat)) rfl (by kernel_rfl) (by kernel_rfl) (by kernel_rfl) (fun _ _ _ h => h) (Or.inl ⟨by rfl, fun Z hZ => by go_simp⟩) (by assumption) ?_
  try simp only [Act.put, List.setIfInBounds_toArray, List.set_cons_zero, List.set_cons_succ]
  refine take_mk 5 (.pointer (some ⟨g, p * 4, none⟩)) rfl (by kernel_rfl) (by kernel_rfl) (by kernel_rfl) (fun _ _ _ h => h) (Or.inl ⟨by rfl, fun Z hZ => by go_simp⟩) (by assumption) ?_
  try simp only [Act.put, List.setIfInBounds_toArray, List.set_cons_zero, List.set_cons_succ]
  refine take_mk 6 (nval dp.v dp.fn (.slice pa dp.args.length pc) u1) rfl (by kernel_rfl) (by kernel_rfl) (by kernel_rfl) (fun _ _ _ h => h) (Or.inl ⟨by rfl, fun Z hZ => by obtain ⟨cb, ⟨y0, y1, y2, y3⟩, _⟩ := HX.out Z hZ; go_simp⟩) (by assumption) ?_
  try simp only [Act.put, List.setIfInBounds_toArray, List.set_cons_zero, List.set_cons_succ]
  refine take_mk 7 (.pointer (some ⟨B, 0, none⟩)) rfl (by kernel_rfl) (by kernel_rfl) (by kernel_rfl) (fun _ _ _ h => h) (Or.inl ⟨by rfl, fun Z hZ => by go_simp⟩) (by assumption) ?_
  try simp only [Act.put, List.setIfInBounds_toArray, List.set_cons_zero, List.set_cons_succ]
  refine take_mk 8 (.pointer (some ⟨B, 0, none⟩)) rfl (by kernel_rfl) (by kernel_rfl) (by kernel_rfl) (fun _ _ _ h => h) (Or.inl ⟨by rfl, fun Z hZ => by go_simp⟩) (by assumption) ?_
  try simp only [Act.put, List.setIfInBounds_toArray, List.set_cons_zero, List.set_cons_succ]
  refine take_mk 9 (.pointer (some ⟨B, 0, none⟩)) rfl (by kernel_rfl) (by kernel_rfl) (by kernel_rfl) (fun _ _ _ h => h) (Or.inl ⟨by rfl, fun Z hZ => by go_simp⟩) (by assumption) ?_
  try simp only [Act.put, List.setIfInBounds_toArray, List.set_cons_zero, List.set_cons_succ]
  refine take_mk 10 (.slice (some ⟨g, 0, none⟩) N.length c) rfl (by kernel_rfl) (by kernel_rfl) (by kernel_rfl) (fun _ _ _ h => h) (Or.inl ⟨by rfl, fun Z hZ => by obtain ⟨cb, _, y0, y1, y2, y3⟩ := HX.out Z hZ; go_simp⟩) (by assumption) ?_
  try simp only [Act.put, List.setIfInBounds_toArray, List.set_cons_zero, List.set_cons_succ]
  refine take_mk 11 (.int .i64 (q : Nat)) rfl (by kernel_rfl) (by kernel_rfl) (by kernel_rfl) (fun _ _ _ h => h) (Or.inl ⟨by rfl, fun Z hZ => by go_simp⟩) (by assumption) ?_
  try simp only [Act.put, List.setIfInBounds_toArray, List.set_cons_zero, List.set_cons_succ]
  refine take_mk 12 (.pointer (some ⟨g, q * 4, none⟩)) rfl (by kernel_rfl) (by kernel_rfl) (by kernel_rfl) (fun _ _ _ h => h) (Or.inl ⟨by rfl, fun Z hZ => by go_simp⟩) (by assumption) ?_
  try simp only [Act.put, List.setIfInBounds_toArray, List.set_cons_zero, List.set_cons_succ]
  refine take_mk 13 (nval dq.v dq.fn (.slice qa dq.args.length qc) u2) rfl (by kernel_rfl) (by kernel_rfl) (by kernel_rfl) (fun _ _ _ h => h) (Or.inl ⟨by rfl, fun Z hZ => by obtain ⟨cb, _, y0, y1, y2, y3⟩ := HX.out Z hZ; go_simp⟩) (by assumption) ?_
  try simp only [Act.put, List.setIfInBounds_toArray, List.set_cons_zero, List.set_cons_succ]
  obtain ⟨V1, hV1⟩ : ∃ X, Wd.alloc (.cells #[.int .i64 0, .string ⟨#[]⟩, .slice none 0 0, .int .i64 0] 65) = X := ⟨_, rfl⟩
  obtain ⟨V2, hV2⟩ : ∃ X, V1.alloc (.cells #[.int .i64 0, .string ⟨#[]⟩, .slice none 0 0, .int .i64 0] 65) = X := ⟨_, rfl⟩
  have q1 : Below Wd.heap.size Wd V1 := by rw [← hV1]; exact below_box _ _
  have q2 : Below V1.heap.size V1 V2 := by rw [← hV2]; exact below_box _ _
  obtain ⟨n0, hn0⟩ : ∃ n, Wd.heap.size = n := ⟨_, rfl⟩
  have hn1 : V1.heap.size = n0 + 1 := by rw [← hV1]; simp [hn0]
  have hn2 : V2.heap.size = n0 + 2 := by rw [← hV2]; simp [hn1]
  have B1 : Below W2.heap.size W2 V1 := HDw.out.trans (q1.mono HDw.out.size)
  have B2 : Below W2.heap.size W2 V2 := B1.trans (q2.mono B1.size)
  have hw0 : W2.heap.size ≤ n0 := by have := HDw.out.size; omega
  have Z0 : V2.heap[n0]? = some (.cells #[.int .i64 0, .string ⟨#[]⟩, .slice none 0 0, .int .i64 0] 65 (0, 0)) := by rw [q2.block _ (by omega), ← hV1, ← hn0]; exact (MapKept.heap_alloc _ _).1
  have Z1 : V2.heap[n0 + 1]? = some (.cells #[.int .i64 0, .string ⟨#[]⟩, .slice none 0 0, .int .i64 0] 65 (0, 0)) := by rw [← hV2, ← hn1]; exact (MapKept.heap_alloc _ _).1
  clear q1 q2
  refine wpAnyH_ready (rs := [14, 15]) (by kernel_rfl) (by simp) (AllReadyH.cons (o := ⟨_, _, _, _, _, _⟩) rfl (fun K hK => ?_) (AllReadyH.cons (o := ⟨_, _, _, _, _, _⟩) rfl (fun K hK => ?_) AllReadyH.nil))
  · rw [if_pos (by rfl)]
    go_simp
    try rw [hV1]
    refine hK.out _ _ B1 (fun _ => ?_)
    clear hK K
    try simp only [Act.put, List.setIfInBounds_toArray, List.set_cons_zero, List.set_cons_succ]
    refine wpAnyH_ready (rs := [15]) (by kernel_rfl) (by simp) (AllReadyH.cons (o := ⟨_, _, _, _, _, _⟩) rfl (fun K hK => ?_) AllReadyH.nil)
    rw [if_pos (by rfl)]
    go_simp
    try rw [hV2]
    refine hK.out _ _ B2 (fun _ => ?_)
    clear hK K
    try simp only [Act.put, List.setIfInBounds_toArray, List.set_cons_zero, List.set_cons_succ]
    try rw [hn0]
    try rw [hn1]
    obtain ⟨V3, hrun3, hx3, hon3⟩ := agg_store 65 V2 n0 #[.int .i64 0, .string ⟨#[]⟩, .slice none 0 0, .int .i64 0] (ncs dp.v dp.fn (.slice pa dp.args.length pc) u1) Z0 rfl Try.info101z (ones4 _ _ _ _ _ _)
    obtain ⟨W9, hrun4, hx4, hon4⟩ := agg_store 65 V3 (n0 + 1) #[.int .i64 0, .string ⟨#[]⟩, .slice none 0 0, .int .i64 0] (ncs dq.v dq.fn (.slice qa dq.args.length qc) u2) (by rw [hon3.block _ (by omega) (by simp)]; exact Z1) rfl Try.info101z (ones4 _ _ _ _ _ _)
    have B3 : Below W2.heap.size W2 V3 := B2.trans (hon3.below B2.size (by simp; omega))
    have B9 : Below W2.heap.size W2 W9 := B3.trans (hon4.below B3.size (by simp; omega))
    refine wpAnyH_ready (rs := [16]) (by kernel_rfl) (by simp) (AllReadyH.cons (o := ⟨_, _, _, _, _, _⟩) rfl (fun K hK => ?_) AllReadyH.nil)
    rw [if_pos (by rfl)]
    refine wp_store_run 65 _ _ rfl (.pointer (some ⟨n0, 0, none⟩)) (nval dp.v dp.fn (.slice pa dp.args.length pc) u1) rfl rfl hrun3 ?_
    refine hK.out _ _ B3 (fun _ => ?_)
    clear hK K
    refine wpAnyH_ready (rs := [17]) (by kernel_rfl) (by simp) (AllReadyH.cons (o := ⟨_, _, _, _, _, _⟩) rfl (fun K hK => ?_) AllReadyH.nil)
    rw [if_pos (by rfl)]
    refine wp_store_run 65 _ _ rfl (.pointer (some ⟨n0 + 1, 0, none⟩)) (nval dq.v dq.fn (.slice qa dq.args.length qc) u2) rfl rfl hrun4 ?_
    refine hK.out _ _ B9 (fun _ => ?_)
    clear hK K
    refine wpAnyH_done (by kernel_rfl) ?_ _
    try simp only [Act.put]
    have hx9 : W9.heap[n0]? = some (.cells (ncs dp.v dp.fn (.slice pa dp.args.length pc) u1).toArray 65 (0, 0)) := by rw [hon4.block _ (Array.getElem?_eq_some_iff.1 hx3).1 (by simp)]; exact hx3
    have lp := (Array.getElem?_eq_some_iff.1 hx9).1
    have lq := (Array.getElem?_eq_some_iff.1 hx4).1
    have n9 : Net W9 B g c N up av := HN2.out.keep B9
    have gp : n0 ≠ g := by have := HN2.out.blt.2; omega
    have gq : (n0 + 1) ≠ g := by have := HN2.out.blt.2; omega
    have HC : Hid (∀ Z, Only [g] W9 Z → Z.cell? ⟨B, 0, none⟩ = some (.slice (some ⟨g, 0, none⟩) N.length c) ∧ Z.frozen? ⟨B, 0, none⟩ = false ∧ (Z.cell? ⟨n0, 0, none⟩ = some (.int .i64 dp.v) ∧ Z.cell? ⟨n0, 1, none⟩ = some (.string dp.fn) ∧ Z.cell? ⟨n0, 2, none⟩ = some (.slice pa dp.args.length pc)) ∧ (Z.cell? ⟨(n0 + 1), 0, none⟩ = some (.int .i64 dq.v) ∧ Z.cell? ⟨(n0 + 1), 1, none⟩ = some (.string dq.fn) ∧ Z.cell? ⟨(n0 + 1), 2, none⟩ = some (.slice qa dq.args.length qc)) ∧ (Z = W9 → Z.frozen? ⟨g, p * 4 + 3, none⟩ = false ∧ Z.cell? ⟨g, p * 4 + 3, none⟩ = some (.int .i64 (up p : Nat))) ∧ (Z = W9 → Z.frozen? ⟨g, q * 4 + 3, none⟩ = false ∧ Z.cell? ⟨g, q * 4 + 3, none⟩ = some (.int .i64 (up q : Nat)))) := fun Z hZ => by
      have hBZ : Z.heap[B]? = W9.heap[B]? := hZ.block B n9.blt.1 (by simpa using n9.ne)
      refine ⟨?_, ?_, ⟨ko hZ lp (by simpa using gp) (cell_at hx9 rfl), ko hZ lp (by simpa using gp) (cell_at hx9 rfl), ko hZ lp (by simpa using gp) (cell_at hx9 rfl)⟩, ⟨ko hZ lq (by simpa using gq) (cell_at hx4 rfl), ko hZ lq (by simpa using gq) (cell_at hx4 rfl), ko hZ lq (by simpa using gq) (cell_at hx4 rfl)⟩, ?_, ?_⟩
      · simp [World.cell?, hBZ, n9.box]
      · simp [World.frozen?, hBZ, n9.box]
      · rintro rfl
        exact ⟨(n9.cells HP.out.2.2.2.2.1).2.2.2.2, (n9.cells HP.out.2.2.2.2.1).2.2.2.1⟩
      · rintro rfl
        exact ⟨(n9.cells HP.out.2.2.2.2.2.1).2.2.2.2, (n9.cells HP.out.2.2.2.2.2.1).2.2.2.1⟩
    have HN9 : Hid (Net W9 B g c N up av) := n9
    have HO9 : Hid (Only [g] W W9) := (Only.of_below (B := [g]) HB2.out).trans (Only.of_below (B := []) B9) (by simp)
    have HA : Hid ((∀ k (hk : k < dp.args.length), ∃ bb o, pa = some ⟨bb, o, none⟩ ∧ bb < W9.heap.size ∧ bb ≠ g ∧ bb ≠ B ∧ W9.cell? ⟨bb, o + k, none⟩ = some (.int .i64 (dp.args[k] : Nat))) ∧ (∀ k (hk : k < dq.args.length), ∃ bb o, qa = some ⟨bb, o, none⟩ ∧ bb < W9.heap.size ∧ bb ≠ g ∧ bb ≠ B ∧ W9.cell? ⟨bb, o + k, none⟩ = some (.int .i64 (dq.args[k] : Nat)))) := by
      obtain ⟨a5, c5, e5, _, h5⟩ := n9.arg HD.out.1
      obtain ⟨a6, c6, e6, _, h6⟩ := n9.arg HD.out.2
      rw [HV.out.1] at e5
      rw [HV.out.2] at e6
      cases e5
      cases e6
      exact ⟨h5, h6⟩
    clear B1 B2 B3 B9 hrun3 hrun4 hx3 hx4 hon3 hon4 hx9 lp lq Z0 Z1 hV1 hV2 hn0 hn1 hHeld HX n9 gp gq
    obtain ⟨cb, cf, ⟨x0, x1, x2⟩, ⟨y0, y1, y2⟩, fp, fq⟩ := HC.out W9 (Only.refl _ _)
    by_cases hx : dp.fn.size = 0
    · have hx0 : dp.fn.toList.isEmpty = true := by rw [ba_isEmpty, hx]; rfl
      by_cases hy : dq.fn.size = 0
      · have hy0 : dq.fn.toList.isEmpty = true := by rw [ba_isEmpty, hy]; rfl
        by_cases hv : dq.v < dp.v
        · go_wp2
          refine bodyPost_ret (v := .bool true) (by simp [results, Try.results33, go_sem]) rfl ?_
          exact joinP_var HN9.out HU.out HT.out HO9.out (.inr ⟨HP.out.1, HP.out.2.1⟩) HP.out.2.2.2.1 HP.out.2.2.1 HP.out.2.2.2.2.2.1 HP.out.2.2.2.2.1 (fun e => hne e.symm) (not_fn HD.out.1 hx) (fun da db h1 h2 _ => by rw [HD.out.2] at h1; rw [HD.out.1] at h2; cases h1; cases h2; omega)
        · go_wp2
          refine bodyPost_ret (v := .bool true) (by simp [results, Try.results33, go_sem]) rfl ?_
          exact joinP_var HN9.out HU.out HT.out HO9.out (.inl ⟨HP.out.1, HP.out.2.1⟩) HP.out.2.2.1 HP.out.2.2.2.1 HP.out.2.2.2.2.1 HP.out.2.2.2.2.2.1 hne (not_fn HD.out.2 hy) (fun da db h1 h2 h3 => by rw [HD.out.1] at h1; rw [HD.out.2] at h2; cases h1; cases h2; first | omega | exact absurd h3 hx)
      · have hy0 : dq.fn.toList.isEmpty = false := by rw [ba_isEmpty]; simpa using hy
        go_wp2
        refine bodyPost_ret (v := .bool true) (by simp [results, Try.results33, go_sem]) rfl ?_
        exact joinP_var HN9.out HU.out HT.out HO9.out (.inr ⟨HP.out.1, HP.out.2.1⟩) HP.out.2.2.2.1 HP.out.2.2.1 HP.out.2.2.2.2.2.1 HP.out.2.2.2.2.1 (fun e => hne e.symm) (not_fn HD.out.1 hx) (fun da db h1 h2 h3 => by rw [HD.out.2] at h1; cases h1; exact absurd h3 hy)
    · have hx0 : dp.fn.toList.isEmpty = false := by rw [ba_isEmpty]; simpa using hx
      by_cases hy : dq.fn.size = 0
      · have hy0 : dq.fn.toList.isEmpty = true := by rw [ba_isEmpty, hy]; rfl
        go_wp2
        refine bodyPost_ret (v := .bool true) (by simp [results, Try.results33, go_sem]) rfl ?_
        exact joinP_var HN9.out HU.out HT.out HO9.out (.inl ⟨HP.out.1, HP.out.2.1⟩) HP.out.2.2.1 HP.out.2.2.2.1 HP.out.2.2.2.2.1 HP.out.2.2.2.2.2.1 hne (not_fn HD.out.2 hy) (fun da db h1 h2 h3 => by rw [HD.out.1] at h1; rw [HD.out.2] at h2; cases h1; cases h2; first | omega | exact absurd h3 hx)
      · have hy0 : dq.fn.toList.isEmpty = false := by rw [ba_isEmpty]; simpa using hy
        by_cases hf : dp.fn = dq.fn
        · by_cases hl : dp.args.length = dq.args.length
          · have hlI : ((dp.args.length : Int) != (dq.args.length : Int)) = false := by rw [hl]; simp
            have hlJ : (dp.args.length : Int) = (dq.args.length : Int) := by rw [hl]
            have hf2 : dp.fn.toList = dq.fn.toList := by rw [hf]
            have HL : Hid (JoinL W (W9.setCell ⟨g, q * 4 + 3, none⟩ (.int .i64 (p : Nat))) B g c N ρ av a b m (dp.args.zip dq.args)) := joinL_first HN9.out HU.out HT.out HO9.out HP.out.1 HP.out.2.1 HP.out.2.2.1 HP.out.2.2.2.1 HP.out.2.2.2.2.1 HP.out.2.2.2.2.2.1 hne HD.out.1 HD.out.2 hx hy hf hl HM.out
            have HO10 : Hid (Only [g] W9 (W9.setCell ⟨g, q * 4 + 3, none⟩ (.int .i64 (p : Nat)))) := only_setCell _ _ _ _
            clear hne
            go_wp2
            obtain ⟨W10, hW10⟩ : ∃ X, W9.setCell ⟨g, q * 4 + 3, none⟩ (.int .i64 (p : Nat)) = X := ⟨_, rfl⟩
            rw [hW10] at HL HO10
            try rw [hW10]
            clear hW10 x0 x1 x2 y0 y1 y2 cb cf fp fq HN9 HO9
            go_loopw [9] (fun vi wr => ∃ i : Nat, vi = .int .i64 i ∧ i ≤ dp.args.length ∧ Hid (Only [g] W9 wr ∧ JoinL W wr B g c N ρ av a b m ((dp.args.zip dq.args).drop i))) (fun vi _ => dp.args.length - (intOf vi).toNat)
            case atStart => exact ⟨0, rfl, Nat.zero_le _, HO10.out, by simpa using HL.out⟩
            case round =>
              obtain ⟨i, rfl, hi, HI⟩ := hrel
              obtain ⟨cb, cf, ⟨x0, x1, x2⟩, ⟨y0, y1, y2⟩, _, _⟩ := HC.out wr HI.out.1
              by_cases hlt : i < dp.args.length
              · have hiI : (i : Int) < (dp.args.length : Int) := by omega
                have hlt2 : i < dq.args.length := by omega
                have hiJ : (i : Int) < (dq.args.length : Int) := by omega
                have hn0 : (0 : Int) ≤ (i : Int) := by omega
                obtain ⟨b1, o1, e1, hb1, hg1, _, z1⟩ := HA.out.1 i hlt
                obtain ⟨b2, o2, e2, hb2, hg2, _, z2⟩ := HA.out.2 i hlt2
                subst e1 e2
                obtain ⟨s, hs⟩ : ∃ s, dp.args[i] = s := ⟨_, rfl⟩
                obtain ⟨t, ht⟩ : ∃ t, dq.args[i] = t := ⟨_, rfl⟩
                rw [hs] at z1
                rw [ht] at z2
                obtain ⟨up1, ρ1, r1, K1, jN, jU, jT, jO, jt, jt2, jJ, jS, jab, jV⟩ := HI.out.2
                have hz : (dp.args.zip dq.args).drop i = (s, t) :: (dp.args.zip dq.args).drop (i + 1) := by
                  have hzl : i < (dp.args.zip dq.args).length := by rw [List.length_zip]; omega
                  rw [List.drop_eq_getElem_cons hzl, List.getElem_zip, hs, ht]
                rw [hz] at jJ jV
                have hsl : s < N.length := hs ▸ HB.out.1 i hlt
                have htl : t < N.length := ht ▸ HB.out.2 i hlt2
                obtain ⟨Wd, hWd⟩ : ∃ X, wr.drew = X := ⟨_, rfl⟩
                have hd : Below wr.heap.size wr Wd := by rw [← hWd]; exact (Below.refl _ wr).drew
                have oD : Only [g] W9 Wd := HI.out.1.trans (Only.of_below (B := []) hd) (by simp)
                have oE : Only [g] W Wd := jO.trans (Only.of_below (B := []) hd) (by simp)
                have hcall := ih up1 ρ1 r1 K1 Wd s t jt (jN.keep hd) jU jT hsl htl
                have HX : Hid (∀ Z, Only [g] Wd Z → (Z.cell? ⟨n0, 2, none⟩ = some (.slice (some ⟨b1, o1, none⟩) dp.args.length pc) ∧ Z.cell? ⟨(n0 + 1), 2, none⟩ = some (.slice (some ⟨b2, o2, none⟩) dq.args.length qc)) ∧ Z.cell? ⟨b1, o1 + i, none⟩ = some (.int .i64 (s : Nat)) ∧ Z.cell? ⟨b2, o2 + i, none⟩ = some (.int .i64 (t : Nat))) := fun Z hZ => by
                  have oZ : Only [g] W9 Z := oD.trans hZ (fun r hr => .inl hr)
                  obtain ⟨_, _, ⟨_, _, k2⟩, ⟨_, _, l2⟩, _, _⟩ := HC.out Z oZ
                  exact ⟨⟨k2, l2⟩, ko oZ hb1 (by simpa using hg1) z1, ko oZ hb2 (by simpa using hg2) z2⟩
                have HJ : Hid (Only [g] W9 Wd ∧ Only [g] W Wd ∧ tops ρ1 N.length < m ∧ tops ρ1 N.length ≤ tops ρ N.length ∧ (∀ P, Jn N ρ ((a, b) :: P) → Jn N ρ1 ((s, t) :: (dp.args.zip dq.args).drop (i + 1) ++ P)) ∧ (∀ i j, ρ i = ρ j → ρ1 i = ρ1 j) ∧ ρ1 a = ρ1 b ∧ (∀ V, Val N V → Kp ρ V → V a = V b → Kp ρ1 V ∧ ∀ u ∈ (s, t) :: (dp.args.zip dq.args).drop (i + 1), V u.1 = V u.2)) := ⟨oD, oE, jt, jt2, jJ, jS, jab, jV⟩
                have HLt : Hid (i < dp.args.length) := hlt
                clear oD oE jt jt2 jJ jS jab jV jN jU jT jO hd HI hz z1 z2 hs ht hb1 hb2 hg1 hg2
                go_wp2
                refine wp_region_held_drew (S := fun Z => Only [g] Wd Z) (by kernel_rfl) (by rw [hWd]; exact Only.refl _ _) (fun hHeld => ?_)
                rw [hWd] at hHeld ⊢
                refine take_mk 0 (.pointer (some ⟨B, 0, none⟩)) rfl (by kernel_rfl) (by kernel_rfl) (by kernel_rfl) (fun _ _ _ h => h) (Or.inl ⟨by rfl, fun Z hZ => by go_simp⟩) (by assumption) ?_
                try simp only [Act.put, List.setIfInBounds_toArray, List.set_cons_zero, List.set_cons_succ]
                refine take_mk 1 (.pointer (some ⟨n0, 2, none⟩)) rfl (by kernel_rfl) (by kernel_rfl) (by kernel_rfl) (fun _ _ _ h => h) (Or.inl ⟨by rfl, fun Z hZ => by go_simp⟩) (by assumption) ?_
                try simp only [Act.put, List.setIfInBounds_toArray, List.set_cons_zero, List.set_cons_succ]
                refine take_mk 2 (.slice (some ⟨b1, o1, none⟩) dp.args.length pc) rfl (by kernel_rfl) (by kernel_rfl) (by kernel_rfl) (fun _ _ _ h => h) (Or.inl ⟨by rfl, fun Z hZ => by obtain ⟨⟨k2, l2⟩, _⟩ := HX.out Z hZ; go_simp⟩) (by assumption) ?_
                try simp only [Act.put, List.setIfInBounds_toArray, List.set_cons_zero, List.set_cons_succ]
                refine take_mk 3 (.int .i64 (i : Nat)) rfl (by kernel_rfl) (by kernel_rfl) (by kernel_rfl) (fun _ _ _ h => h) (Or.inl ⟨by rfl, fun Z hZ => by go_simp⟩) (by assumption) ?_
                try simp only [Act.put, List.setIfInBounds_toArray, List.set_cons_zero, List.set_cons_succ]
                refine take_mk 4 (.pointer (some ⟨b1, o1 + i, none⟩)) rfl (by kernel_rfl) (by kernel_rfl) (by kernel_rfl) (fun _ _ _ h => h) (Or.inl ⟨by rfl, fun Z hZ => by go_simp⟩) (by assumption) ?_
                try simp only [Act.put, List.setIfInBounds_toArray, List.set_cons_zero, List.set_cons_succ]
                refine take_mk 5 (.int .i64 (s : Nat)) rfl (by kernel_rfl) (by kernel_rfl) (by kernel_rfl) (fun _ _ _ h => h) (Or.inl ⟨by rfl, fun Z hZ => by obtain ⟨_, k2, l2⟩ := HX.out Z hZ; go_simp⟩) (by assumption) ?_
                try simp only [Act.put, List.setIfInBounds_toArray, List.set_cons_zero, List.set_cons_succ]
                refine take_mk 6 (.pointer (some ⟨(n0 + 1), 2, none⟩)) rfl (by kernel_rfl) (by kernel_rfl) (by kernel_rfl) (fun _ _ _ h => h) (Or.inl ⟨by rfl, fun Z hZ => by go_simp⟩) (by assumption) ?_
                try simp only [Act.put, List.setIfInBounds_toArray, List.set_cons_zero, List.set_cons_succ]
                refine take_mk 7 (.slice (some ⟨b2, o2, none⟩) dq.args.length qc) rfl (by kernel_rfl) (by kernel_rfl) (by kernel_rfl) (fun _ _ _ h => h) (Or.inl ⟨by rfl, fun Z hZ => by obtain ⟨⟨k2, l2⟩, _⟩ := HX.out Z hZ; go_simp⟩) (by assumption) ?_
                try simp only [Act.put, List.setIfInBounds_toArray, List.set_cons_zero, List.set_cons_succ]
                refine take_mk 8 (.int .i64 (i : Nat)) rfl (by kernel_rfl) (by kernel_rfl) (by kernel_rfl) (fun _ _ _ h => h) (Or.inl ⟨by rfl, fun Z hZ => by go_simp⟩) (by assumption) ?_
                try simp only [Act.put, List.setIfInBounds_toArray, List.set_cons_zero, List.set_cons_succ]
                refine take_mk 9 (.pointer (some ⟨b2, o2 + i, none⟩)) rfl (by kernel_rfl) (by kernel_rfl) (by kernel_rfl) (fun _ _ _ h => h) (Or.inl ⟨by rfl, fun Z hZ => by go_simp⟩) (by assumption) ?_
                try simp only [Act.put, List.setIfInBounds_toArray, List.set_cons_zero, List.set_cons_succ]
                refine take_mk 10 (.int .i64 (t : Nat)) rfl (by kernel_rfl) (by kernel_rfl) (by kernel_rfl) (fun _ _ _ h => h) (Or.inl ⟨by rfl, fun Z hZ => by obtain ⟨_, k2, l2⟩ := HX.out Z hZ; go_simp⟩) (by assumption) ?_
                try simp only [Act.put, List.setIfInBounds_toArray, List.set_cons_zero, List.set_cons_succ]
                refine wpAnyH_ready (rs := [11]) (by kernel_rfl) (by simp) (AllReadyH.cons (o := ⟨_, _, _, _, _, _⟩) rfl (fun K hK => ?_) AllReadyH.nil)
                rw [if_pos (by rfl)]
                go_simp
                refine hcall.mono ?_
                intro e W11 hP
                obtain ⟨z, rfl, hO11⟩ := hP.bool
                refine hK.out _ _ hO11 (fun _ => ?_)
                clear hK K
                try simp only [Act.put, List.setIfInBounds_toArray, List.set_cons_zero, List.set_cons_succ]
                refine take_mk 12 (.bool (!z)) rfl (by kernel_rfl) (by kernel_rfl) (by kernel_rfl) (fun _ _ _ h => h) (Or.inl ⟨by rfl, fun Z hZ => by go_simp⟩) (by assumption) ?_
                try simp only [Act.put, List.setIfInBounds_toArray, List.set_cons_zero, List.set_cons_succ]
                refine wpAnyH_done (by kernel_rfl) ?_ _
                try simp only [Act.put]
                have HP11 : Hid (JoinP Wd B g c N ρ1 av s t (.returned (.bool z)) W11) := hP
                have HO11 : Hid (Only [g] W9 W11) := HJ.out.1.trans hO11 (fun r hr => .inl hr)
                clear hP hO11 hcall hHeld HX hWd
                cases z
                · go_wp2
                  refine bodyPost_ret (v := .bool false) (by simp [results, Try.results33, go_sem]) rfl ?_
                  exact joinL_out HJ.out.2.1 HJ.out.2.2.2.1 HJ.out.2.2.2.2.2.2.2 HP11.out
                · go_wp2
                  go_roundw
                  case rel => exact ⟨i + 1, by go_num, by have := HLt.out; omega, HO11.out, joinL_next HJ.out.2.1 HJ.out.2.2.1 HJ.out.2.2.2.1 HJ.out.2.2.2.2.1 HJ.out.2.2.2.2.2.1 HJ.out.2.2.2.2.2.2.1 HJ.out.2.2.2.2.2.2.2 HP11.out⟩
                  case measure => have := HLt.out; simp [intOf]; omega
              · have hiI : ¬ (i : Int) < (dp.args.length : Int) := by omega
                have HF : Hid (JoinL W wr B g c N ρ av a b m []) := by
                  have h2 := HI.out.2
                  rw [List.drop_eq_nil_of_le (by rw [List.length_zip]; omega)] at h2
                  exact h2
                clear HI
                go_wp2
                refine bodyPost_ret (v := .bool true) (by simp [results, Try.results33, go_sem]) rfl ?_
                exact joinL_done HF.out
          · have hlI : ((dp.args.length : Int) != (dq.args.length : Int)) = true := by rw [bne_iff_ne]; omega
            have hf2 : dp.fn.toList = dq.fn.toList := by rw [hf]
            have hlJ : ¬ (dp.args.length : Int) = (dq.args.length : Int) := by omega
            go_wp2
            refine bodyPost_ret (v := .bool false) (by simp [results, Try.results33, go_sem]) rfl ?_
            exact joinP_no HN9.out HU.out HT.out HO9.out (no_val HP.out.1 HP.out.2.1 HP.out.2.2.1 HP.out.2.2.2.1 HD.out.1 HD.out.2 hx hy (fun e => by first | exact hl e.2 | exact hf e.1))
        · have hf2 : ¬ dp.fn.toList = dq.fn.toList := fun e => hf (ba_toList_inj.1 e)
          go_wp2
          refine bodyPost_ret (v := .bool false) (by simp [results, Try.results33, go_sem]) rfl ?_
          exact joinP_no HN9.out HU.out HT.out HO9.out (no_val HP.out.1 HP.out.2.1 HP.out.2.2.1 HP.out.2.2.2.1 HD.out.1 HD.out.2 hx hy (fun e => by first | exact hl e.2 | exact hf e.1))
  · rw [if_pos (by rfl)]
    go_simp
    try rw [hV1]
    refine hK.out _ _ B1 (fun _ => ?_)
    clear hK K
    try simp only [Act.put, List.setIfInBounds_toArray, List.set_cons_zero, List.set_cons_succ]
    refine wpAnyH_ready (rs := [14]) (by kernel_rfl) (by simp) (AllReadyH.cons (o := ⟨_, _, _, _, _, _⟩) rfl (fun K hK => ?_) AllReadyH.nil)
    rw [if_pos (by rfl)]
    go_simp
    try rw [hV2]
    refine hK.out _ _ B2 (fun _ => ?_)
    clear hK K
    try simp only [Act.put, List.setIfInBounds_toArray, List.set_cons_zero, List.set_cons_succ]
    try rw [hn0]
    try rw [hn1]
    obtain ⟨V3, hrun3, hx3, hon3⟩ := agg_store 65 V2 (n0 + 1) #[.int .i64 0, .string ⟨#[]⟩, .slice none 0 0, .int .i64 0] (ncs dp.v dp.fn (.slice pa dp.args.length pc) u1) Z1 rfl Try.info101z (ones4 _ _ _ _ _ _)
    obtain ⟨W9, hrun4, hx4, hon4⟩ := agg_store 65 V3 n0 #[.int .i64 0, .string ⟨#[]⟩, .slice none 0 0, .int .i64 0] (ncs dq.v dq.fn (.slice qa dq.args.length qc) u2) (by rw [hon3.block _ (by omega) (by simp)]; exact Z0) rfl Try.info101z (ones4 _ _ _ _ _ _)
    have B3 : Below W2.heap.size W2 V3 := B2.trans (hon3.below B2.size (by simp; omega))
    have B9 : Below W2.heap.size W2 W9 := B3.trans (hon4.below B3.size (by simp; omega))
    refine wpAnyH_ready (rs := [16]) (by kernel_rfl) (by simp) (AllReadyH.cons (o := ⟨_, _, _, _, _, _⟩) rfl (fun K hK => ?_) AllReadyH.nil)
    rw [if_pos (by rfl)]
    refine wp_store_run 65 _ _ rfl (.pointer (some ⟨n0 + 1, 0, none⟩)) (nval dp.v dp.fn (.slice pa dp.args.length pc) u1) rfl rfl hrun3 ?_
    refine hK.out _ _ B3 (fun _ => ?_)
    clear hK K
    refine wpAnyH_ready (rs := [17]) (by kernel_rfl) (by simp) (AllReadyH.cons (o := ⟨_, _, _, _, _, _⟩) rfl (fun K hK => ?_) AllReadyH.nil)
    rw [if_pos (by rfl)]
    refine wp_store_run 65 _ _ rfl (.pointer (some ⟨n0, 0, none⟩)) (nval dq.v dq.fn (.slice qa dq.args.length qc) u2) rfl rfl hrun4 ?_
    refine hK.out _ _ B9 (fun _ => ?_)
    clear hK K
    refine wpAnyH_done (by kernel_rfl) ?_ _
    try simp only [Act.put]
    have hx9 : W9.heap[(n0 + 1)]? = some (.cells (ncs dp.v dp.fn (.slice pa dp.args.length pc) u1).toArray 65 (0, 0)) := by rw [hon4.block _ (Array.getElem?_eq_some_iff.1 hx3).1 (by simp)]; exact hx3
    have lp := (Array.getElem?_eq_some_iff.1 hx9).1
    have lq := (Array.getElem?_eq_some_iff.1 hx4).1
    have n9 : Net W9 B g c N up av := HN2.out.keep B9
    have gp : (n0 + 1) ≠ g := by have := HN2.out.blt.2; omega
    have gq : n0 ≠ g := by have := HN2.out.blt.2; omega
    have HC : Hid (∀ Z, Only [g] W9 Z → Z.cell? ⟨B, 0, none⟩ = some (.slice (some ⟨g, 0, none⟩) N.length c) ∧ Z.frozen? ⟨B, 0, none⟩ = false ∧ (Z.cell? ⟨(n0 + 1), 0, none⟩ = some (.int .i64 dp.v) ∧ Z.cell? ⟨(n0 + 1), 1, none⟩ = some (.string dp.fn) ∧ Z.cell? ⟨(n0 + 1), 2, none⟩ = some (.slice pa dp.args.length pc)) ∧ (Z.cell? ⟨n0, 0, none⟩ = some (.int .i64 dq.v) ∧ Z.cell? ⟨n0, 1, none⟩ = some (.string dq.fn) ∧ Z.cell? ⟨n0, 2, none⟩ = some (.slice qa dq.args.length qc)) ∧ (Z = W9 → Z.frozen? ⟨g, p * 4 + 3, none⟩ = false ∧ Z.cell? ⟨g, p * 4 + 3, none⟩ = some (.int .i64 (up p : Nat))) ∧ (Z = W9 → Z.frozen? ⟨g, q * 4 + 3, none⟩ = false ∧ Z.cell? ⟨g, q * 4 + 3, none⟩ = some (.int .i64 (up q : Nat)))) := fun Z hZ => by
      have hBZ : Z.heap[B]? = W9.heap[B]? := hZ.block B n9.blt.1 (by simpa using n9.ne)
      refine ⟨?_, ?_, ⟨ko hZ lp (by simpa using gp) (cell_at hx9 rfl), ko hZ lp (by simpa using gp) (cell_at hx9 rfl), ko hZ lp (by simpa using gp) (cell_at hx9 rfl)⟩, ⟨ko hZ lq (by simpa using gq) (cell_at hx4 rfl), ko hZ lq (by simpa using gq) (cell_at hx4 rfl), ko hZ lq (by simpa using gq) (cell_at hx4 rfl)⟩, ?_, ?_⟩
      · simp [World.cell?, hBZ, n9.box]
      · simp [World.frozen?, hBZ, n9.box]
      · rintro rfl
        exact ⟨(n9.cells HP.out.2.2.2.2.1).2.2.2.2, (n9.cells HP.out.2.2.2.2.1).2.2.2.1⟩
      · rintro rfl
        exact ⟨(n9.cells HP.out.2.2.2.2.2.1).2.2.2.2, (n9.cells HP.out.2.2.2.2.2.1).2.2.2.1⟩
    have HN9 : Hid (Net W9 B g c N up av) := n9
    have HO9 : Hid (Only [g] W W9) := (Only.of_below (B := [g]) HB2.out).trans (Only.of_below (B := []) B9) (by simp)
    have HA : Hid ((∀ k (hk : k < dp.args.length), ∃ bb o, pa = some ⟨bb, o, none⟩ ∧ bb < W9.heap.size ∧ bb ≠ g ∧ bb ≠ B ∧ W9.cell? ⟨bb, o + k, none⟩ = some (.int .i64 (dp.args[k] : Nat))) ∧ (∀ k (hk : k < dq.args.length), ∃ bb o, qa = some ⟨bb, o, none⟩ ∧ bb < W9.heap.size ∧ bb ≠ g ∧ bb ≠ B ∧ W9.cell? ⟨bb, o + k, none⟩ = some (.int .i64 (dq.args[k] : Nat)))) := by
      obtain ⟨a5, c5, e5, _, h5⟩ := n9.arg HD.out.1
      obtain ⟨a6, c6, e6, _, h6⟩ := n9.arg HD.out.2
      rw [HV.out.1] at e5
      rw [HV.out.2] at e6
      cases e5
      cases e6
      exact ⟨h5, h6⟩
    clear B1 B2 B3 B9 hrun3 hrun4 hx3 hx4 hon3 hon4 hx9 lp lq Z0 Z1 hV1 hV2 hn0 hn1 hHeld HX n9 gp gq
    obtain ⟨cb, cf, ⟨x0, x1, x2⟩, ⟨y0, y1, y2⟩, fp, fq⟩ := HC.out W9 (Only.refl _ _)
    by_cases hx : dp.fn.size = 0
    · have hx0 : dp.fn.toList.isEmpty = true := by rw [ba_isEmpty, hx]; rfl
      by_cases hy : dq.fn.size = 0
      · have hy0 : dq.fn.toList.isEmpty = true := by rw [ba_isEmpty, hy]; rfl
        by_cases hv : dq.v < dp.v
        · go_wp2
          refine bodyPost_ret (v := .bool true) (by simp [results, Try.results33, go_sem]) rfl ?_
          exact joinP_var HN9.out HU.out HT.out HO9.out (.inr ⟨HP.out.1, HP.out.2.1⟩) HP.out.2.2.2.1 HP.out.2.2.1 HP.out.2.2.2.2.2.1 HP.out.2.2.2.2.1 (fun e => hne e.symm) (not_fn HD.out.1 hx) (fun da db h1 h2 _ => by rw [HD.out.2] at h1; rw [HD.out.1] at h2; cases h1; cases h2; omega)
        · go_wp2
          refine bodyPost_ret (v := .bool true) (by simp [results, Try.results33, go_sem]) rfl ?_
          exact joinP_var HN9.out HU.out HT.out HO9.out (.inl ⟨HP.out.1, HP.out.2.1⟩) HP.out.2.2.1 HP.out.2.2.2.1 HP.out.2.2.2.2.1 HP.out.2.2.2.2.2.1 hne (not_fn HD.out.2 hy) (fun da db h1 h2 h3 => by rw [HD.out.1] at h1; rw [HD.out.2] at h2; cases h1; cases h2; first | omega | exact absurd h3 hx)
      · have hy0 : dq.fn.toList.isEmpty = false := by rw [ba_isEmpty]; simpa using hy
        go_wp2
        refine bodyPost_ret (v := .bool true) (by simp [results, Try.results33, go_sem]) rfl ?_
        exact joinP_var HN9.out HU.out HT.out HO9.out (.inr ⟨HP.out.1, HP.out.2.1⟩) HP.out.2.2.2.1 HP.out.2.2.1 HP.out.2.2.2.2.2.1 HP.out.2.2.2.2.1 (fun e => hne e.symm) (not_fn HD.out.1 hx) (fun da db h1 h2 h3 => by rw [HD.out.2] at h1; cases h1; exact absurd h3 hy)
    · have hx0 : dp.fn.toList.isEmpty = false := by rw [ba_isEmpty]; simpa using hx
      by_cases hy : dq.fn.size = 0
      · have hy0 : dq.fn.toList.isEmpty = true := by rw [ba_isEmpty, hy]; rfl
        go_wp2
        refine bodyPost_ret (v := .bool true) (by simp [results, Try.results33, go_sem]) rfl ?_
        exact joinP_var HN9.out HU.out HT.out HO9.out (.inl ⟨HP.out.1, HP.out.2.1⟩) HP.out.2.2.1 HP.out.2.2.2.1 HP.out.2.2.2.2.1 HP.out.2.2.2.2.2.1 hne (not_fn HD.out.2 hy) (fun da db h1 h2 h3 => by rw [HD.out.1] at h1; rw [HD.out.2] at h2; cases h1; cases h2; first | omega | exact absurd h3 hx)
      · have hy0 : dq.fn.toList.isEmpty = false := by rw [ba_isEmpty]; simpa using hy
        by_cases hf : dp.fn = dq.fn
        · by_cases hl : dp.args.length = dq.args.length
          · have hlI : ((dp.args.length : Int) != (dq.args.length : Int)) = false := by rw [hl]; simp
            have hlJ : (dp.args.length : Int) = (dq.args.length : Int) := by rw [hl]
            have hf2 : dp.fn.toList = dq.fn.toList := by rw [hf]
            have HL : Hid (JoinL W (W9.setCell ⟨g, q * 4 + 3, none⟩ (.int .i64 (p : Nat))) B g c N ρ av a b m (dp.args.zip dq.args)) := joinL_first HN9.out HU.out HT.out HO9.out HP.out.1 HP.out.2.1 HP.out.2.2.1 HP.out.2.2.2.1 HP.out.2.2.2.2.1 HP.out.2.2.2.2.2.1 hne HD.out.1 HD.out.2 hx hy hf hl HM.out
            have HO10 : Hid (Only [g] W9 (W9.setCell ⟨g, q * 4 + 3, none⟩ (.int .i64 (p : Nat)))) := only_setCell _ _ _ _
            clear hne
            go_wp2
            obtain ⟨W10, hW10⟩ : ∃ X, W9.setCell ⟨g, q * 4 + 3, none⟩ (.int .i64 (p : Nat)) = X := ⟨_, rfl⟩
            rw [hW10] at HL HO10
            try rw [hW10]
            clear hW10 x0 x1 x2 y0 y1 y2 cb cf fp fq HN9 HO9
            go_loopw [9] (fun vi wr => ∃ i : Nat, vi = .int .i64 i ∧ i ≤ dp.args.length ∧ Hid (Only [g] W9 wr ∧ JoinL W wr B g c N ρ av a b m ((dp.args.zip dq.args).drop i))) (fun vi _ => dp.args.length - (intOf vi).toNat)
            case atStart => exact ⟨0, rfl, Nat.zero_le _, HO10.out, by simpa using HL.out⟩
            case round =>
              obtain ⟨i, rfl, hi, HI⟩ := hrel
              obtain ⟨cb, cf, ⟨x0, x1, x2⟩, ⟨y0, y1, y2⟩, _, _⟩ := HC.out wr HI.out.1
              by_cases hlt : i < dp.args.length
              · have hiI : (i : Int) < (dp.args.length : Int) := by omega
                have hlt2 : i < dq.args.length := by omega
                have hiJ : (i : Int) < (dq.args.length : Int) := by omega
                have hn0 : (0 : Int) ≤ (i : Int) := by omega
                obtain ⟨b1, o1, e1, hb1, hg1, _, z1⟩ := HA.out.1 i hlt
                obtain ⟨b2, o2, e2, hb2, hg2, _, z2⟩ := HA.out.2 i hlt2
                subst e1 e2
                obtain ⟨s, hs⟩ : ∃ s, dp.args[i] = s := ⟨_, rfl⟩
                obtain ⟨t, ht⟩ : ∃ t, dq.args[i] = t := ⟨_, rfl⟩
                rw [hs] at z1
                rw [ht] at z2
                obtain ⟨up1, ρ1, r1, K1, jN, jU, jT, jO, jt, jt2, jJ, jS, jab, jV⟩ := HI.out.2
                have hz : (dp.args.zip dq.args).drop i = (s, t) :: (dp.args.zip dq.args).drop (i + 1) := by
                  have hzl : i < (dp.args.zip dq.args).length := by rw [List.length_zip]; omega
                  rw [List.drop_eq_getElem_cons hzl, List.getElem_zip, hs, ht]
                rw [hz] at jJ jV
                have hsl : s < N.length := hs ▸ HB.out.1 i hlt
                have htl : t < N.length := ht ▸ HB.out.2 i hlt2
                obtain ⟨Wd, hWd⟩ : ∃ X, wr.drew = X := ⟨_, rfl⟩
                have hd : Below wr.heap.size wr Wd := by rw [← hWd]; exact (Below.refl _ wr).drew
                have oD : Only [g] W9 Wd := HI.out.1.trans (Only.of_below (B := []) hd) (by simp)
                have oE : Only [g] W Wd := jO.trans (Only.of_below (B := []) hd) (by simp)
                have hcall := ih up1 ρ1 r1 K1 Wd s t jt (jN.keep hd) jU jT hsl htl
                have HX : Hid (∀ Z, Only [g] Wd Z → (Z.cell? ⟨(n0 + 1), 2, none⟩ = some (.slice (some ⟨b1, o1, none⟩) dp.args.length pc) ∧ Z.cell? ⟨n0, 2, none⟩ = some (.slice (some ⟨b2, o2, none⟩) dq.args.length qc)) ∧ Z.cell? ⟨b1, o1 + i, none⟩ = some (.int .i64 (s : Nat)) ∧ Z.cell? ⟨b2, o2 + i, none⟩ = some (.int .i64 (t : Nat))) := fun Z hZ => by
                  have oZ : Only [g] W9 Z := oD.trans hZ (fun r hr => .inl hr)
                  obtain ⟨_, _, ⟨_, _, k2⟩, ⟨_, _, l2⟩, _, _⟩ := HC.out Z oZ
                  exact ⟨⟨k2, l2⟩, ko oZ hb1 (by simpa using hg1) z1, ko oZ hb2 (by simpa using hg2) z2⟩
                have HJ : Hid (Only [g] W9 Wd ∧ Only [g] W Wd ∧ tops ρ1 N.length < m ∧ tops ρ1 N.length ≤ tops ρ N.length ∧ (∀ P, Jn N ρ ((a, b) :: P) → Jn N ρ1 ((s, t) :: (dp.args.zip dq.args).drop (i + 1) ++ P)) ∧ (∀ i j, ρ i = ρ j → ρ1 i = ρ1 j) ∧ ρ1 a = ρ1 b ∧ (∀ V, Val N V → Kp ρ V → V a = V b → Kp ρ1 V ∧ ∀ u ∈ (s, t) :: (dp.args.zip dq.args).drop (i + 1), V u.1 = V u.2)) := ⟨oD, oE, jt, jt2, jJ, jS, jab, jV⟩
                have HLt : Hid (i < dp.args.length) := hlt
                clear oD oE jt jt2 jJ jS jab jV jN jU jT jO hd HI hz z1 z2 hs ht hb1 hb2 hg1 hg2
                go_wp2
                refine wp_region_held_drew (S := fun Z => Only [g] Wd Z) (by kernel_rfl) (by rw [hWd]; exact Only.refl _ _) (fun hHeld => ?_)
                rw [hWd] at hHeld ⊢
                refine take_mk 0 (.pointer (some ⟨B, 0, none⟩)) rfl (by kernel_rfl) (by kernel_rfl) (by kernel_rfl) (fun _ _ _ h => h) (Or.inl ⟨by rfl, fun Z hZ => by go_simp⟩) (by assumption) ?_
                try simp only [Act.put, List.setIfInBounds_toArray, List.set_cons_zero, List.set_cons_succ]
                refine take_mk 1 (.pointer (some ⟨(n0 + 1), 2, none⟩)) rfl (by kernel_rfl) (by kernel_rfl) (by kernel_rfl) (fun _ _ _ h => h) (Or.inl ⟨by rfl, fun Z hZ => by go_simp⟩) (by assumption) ?_
                try simp only [Act.put, List.setIfInBounds_toArray, List.set_cons_zero, List.set_cons_succ]
                refine take_mk 2 (.slice (some ⟨b1, o1, none⟩) dp.args.length pc) rfl (by kernel_rfl) (by kernel_rfl) (by kernel_rfl) (fun _ _ _ h => h) (Or.inl ⟨by rfl, fun Z hZ => by obtain ⟨⟨k2, l2⟩, _⟩ := HX.out Z hZ; go_simp⟩) (by assumption) ?_
                try simp only [Act.put, List.setIfInBounds_toArray, List.set_cons_zero, List.set_cons_succ]
                refine take_mk 3 (.int .i64 (i : Nat)) rfl (by kernel_rfl) (by kernel_rfl) (by kernel_rfl) (fun _ _ _ h => h) (Or.inl ⟨by rfl, fun Z hZ => by go_simp⟩) (by assumption) ?_
                try simp only [Act.put, List.setIfInBounds_toArray, List.set_cons_zero, List.set_cons_succ]
                refine take_mk 4 (.pointer (some ⟨b1, o1 + i, none⟩)) rfl (by kernel_rfl) (by kernel_rfl) (by kernel_rfl) (fun _ _ _ h => h) (Or.inl ⟨by rfl, fun Z hZ => by go_simp⟩) (by assumption) ?_
                try simp only [Act.put, List.setIfInBounds_toArray, List.set_cons_zero, List.set_cons_succ]
                refine take_mk 5 (.int .i64 (s : Nat)) rfl (by kernel_rfl) (by kernel_rfl) (by kernel_rfl) (fun _ _ _ h => h) (Or.inl ⟨by rfl, fun Z hZ => by obtain ⟨_, k2, l2⟩ := HX.out Z hZ; go_simp⟩) (by assumption) ?_
                try simp only [Act.put, List.setIfInBounds_toArray, List.set_cons_zero, List.set_cons_succ]
                refine take_mk 6 (.pointer (some ⟨n0, 2, none⟩)) rfl (by kernel_rfl) (by kernel_rfl) (by kernel_rfl) (fun _ _ _ h => h) (Or.inl ⟨by rfl, fun Z hZ => by go_simp⟩) (by assumption) ?_
                try simp only [Act.put, List.setIfInBounds_toArray, List.set_cons_zero, List.set_cons_succ]
                refine take_mk 7 (.slice (some ⟨b2, o2, none⟩) dq.args.length qc) rfl (by kernel_rfl) (by kernel_rfl) (by kernel_rfl) (fun _ _ _ h => h) (Or.inl ⟨by rfl, fun Z hZ => by obtain ⟨⟨k2, l2⟩, _⟩ := HX.out Z hZ; go_simp⟩) (by assumption) ?_
                try simp only [Act.put, List.setIfInBounds_toArray, List.set_cons_zero, List.set_cons_succ]
                refine take_mk 8 (.int .i64 (i : Nat)) rfl (by kernel_rfl) (by kernel_rfl) (by kernel_rfl) (fun _ _ _ h => h) (Or.inl ⟨by rfl, fun Z hZ => by go_simp⟩) (by assumption) ?_
                try simp only [Act.put, List.setIfInBounds_toArray, List.set_cons_zero, List.set_cons_succ]
                refine take_mk 9 (.pointer (some ⟨b2, o2 + i, none⟩)) rfl (by kernel_rfl) (by kernel_rfl) (by kernel_rfl) (fun _ _ _ h => h) (Or.inl ⟨by rfl, fun Z hZ => by go_simp⟩) (by assumption) ?_
                try simp only [Act.put, List.setIfInBounds_toArray, List.set_cons_zero, List.set_cons_succ]
                refine take_mk 10 (.int .i64 (t : Nat)) rfl (by kernel_rfl) (by kernel_rfl) (by kernel_rfl) (fun _ _ _ h => h) (Or.inl ⟨by rfl, fun Z hZ => by obtain ⟨_, k2, l2⟩ := HX.out Z hZ; go_simp⟩) (by assumption) ?_
                try simp only [Act.put, List.setIfInBounds_toArray, List.set_cons_zero, List.set_cons_succ]
                refine wpAnyH_ready (rs := [11]) (by kernel_rfl) (by simp) (AllReadyH.cons (o := ⟨_, _, _, _, _, _⟩) rfl (fun K hK => ?_) AllReadyH.nil)
                rw [if_pos (by rfl)]
                go_simp
                refine hcall.mono ?_
                intro e W11 hP
                obtain ⟨z, rfl, hO11⟩ := hP.bool
                refine hK.out _ _ hO11 (fun _ => ?_)
                clear hK K
                try simp only [Act.put, List.setIfInBounds_toArray, List.set_cons_zero, List.set_cons_succ]
                refine take_mk 12 (.bool (!z)) rfl (by kernel_rfl) (by kernel_rfl) (by kernel_rfl) (fun _ _ _ h => h) (Or.inl ⟨by rfl, fun Z hZ => by go_simp⟩) (by assumption) ?_
                try simp only [Act.put, List.setIfInBounds_toArray, List.set_cons_zero, List.set_cons_succ]
                refine wpAnyH_done (by kernel_rfl) ?_ _
                try simp only [Act.put]
                have HP11 : Hid (JoinP Wd B g c N ρ1 av s t (.returned (.bool z)) W11) := hP
                have HO11 : Hid (Only [g] W9 W11) := HJ.out.1.trans hO11 (fun r hr => .inl hr)
                clear hP hO11 hcall hHeld HX hWd
                cases z
                · go_wp2
                  refine bodyPost_ret (v := .bool false) (by simp [results, Try.results33, go_sem]) rfl ?_
                  exact joinL_out HJ.out.2.1 HJ.out.2.2.2.1 HJ.out.2.2.2.2.2.2.2 HP11.out
                · go_wp2
                  go_roundw
                  case rel => exact ⟨i + 1, by go_num, by have := HLt.out; omega, HO11.out, joinL_next HJ.out.2.1 HJ.out.2.2.1 HJ.out.2.2.2.1 HJ.out.2.2.2.2.1 HJ.out.2.2.2.2.2.1 HJ.out.2.2.2.2.2.2.1 HJ.out.2.2.2.2.2.2.2 HP11.out⟩
                  case measure => have := HLt.out; simp [intOf]; omega
              · have hiI : ¬ (i : Int) < (dp.args.length : Int) := by omega
                have HF : Hid (JoinL W wr B g c N ρ av a b m []) := by
                  have h2 := HI.out.2
                  rw [List.drop_eq_nil_of_le (by rw [List.length_zip]; omega)] at h2
                  exact h2
                clear HI
                go_wp2
                refine bodyPost_ret (v := .bool true) (by simp [results, Try.results33, go_sem]) rfl ?_
                exact joinL_done HF.out
          · have hlI : ((dp.args.length : Int) != (dq.args.length : Int)) = true := by rw [bne_iff_ne]; omega
            have hf2 : dp.fn.toList = dq.fn.toList := by rw [hf]
            have hlJ : ¬ (dp.args.length : Int) = (dq.args.length : Int) := by omega
            go_wp2
            refine bodyPost_ret (v := .bool false) (by simp [results, Try.results33, go_sem]) rfl ?_
            exact joinP_no HN9.out HU.out HT.out HO9.out (no_val HP.out.1 HP.out.2.1 HP.out.2.2.1 HP.out.2.2.2.1 HD.out.1 HD.out.2 hx hy (fun e => by first | exact hl e.2 | exact hf e.1))
        · have hf2 : ¬ dp.fn.toList = dq.fn.toList := fun e => hf (ba_toList_inj.1 e)
          go_wp2
          refine bodyPost_ret (v := .bool false) (by simp [results, Try.results33, go_sem]) rfl ?_
          exact joinP_no HN9.out HU.out HT.out HO9.out (no_val HP.out.1 HP.out.2.1 HP.out.2.2.1 HP.out.2.2.2.1 HD.out.1 HD.out.2 hx hy (fun e => by first | exact hl e.2 | exact hf e.1))

end Go.Proofs.Ytblfbmdnkgebdaa.Dn
