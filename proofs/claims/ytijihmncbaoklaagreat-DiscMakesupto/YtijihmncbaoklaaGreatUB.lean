import Derived.Test.YtijihmncbaoklaaGreatTD
import Derived.Test.YtijihmncbaoklaaGreatPA
import Derived.Test.YtijihmncbaoklaaGreatR

/-
  The tree's nodes in memory.
-/
namespace Go.Proofs.YtijihmncbaoklaaGreat
open Go.RowKit Go.Maps

theorem keyed55 : Keyed Tryz.prog 75 := Keyed.of_law (deep_law_laid laidOut (m := 4) (by omega) (of_decide_eq_true (by kernel_rfl)) (by kernel_rfl) (by kernel_rfl))
theorem Tryz.kt55 : Tryz.prog.keyType 75 = true := by kernel_rfl
theorem Tryz.cells75 : Tryz.prog.cellsOf 75 = 2 := by kernel_rfl
theorem Tryz.cells3k : Tryz.prog.cellsOf 3 = 1 := by kernel_rfl
theorem Tryz.cells9k : Tryz.prog.cellsOf 9 = 1 := by kernel_rfl

/-- A symbol that can be a key. -/
def Sym.ok (s : Sym) : Prop := s.1.size ≤ 64 ∧ s.2 ≤ 16

theorem sym_lits (d : Nat) {s : Sym} (h : Sym.ok s) : (Tryz.prog.keyLits (d + 1 + 1) 75 [.string s.1, .int .i64 (s.2 : Nat)]).isSome = true := by
  have h1 : (Tryz.prog.keyLits (d + 1) 9 [.string s.1]).isSome = true := by
    have h1 : s.1.size ≤ maxLen := by unfold maxLen; have := h.1; omega
    simp [Program.keyLits, Tryz.underlying9, h1]
  have h2 : (Tryz.prog.keyLits (d + 1) 3 [.int .i64 (s.2 : Nat)]).isSome = true := by
    have hf : Fit64 ((s.2 : Nat) : Int) := ⟨by omega, by have := h.2; omega⟩
    simp [Program.keyLits, Tryz.underlying3, wf_of hf]
  obtain ⟨x1, e1⟩ := Option.isSome_iff_exists.1 h1
  obtain ⟨x2, e2⟩ := Option.isSome_iff_exists.1 h2
  unfold Program.keyLits
  rw [Tryz.underlying75]
  simp [Tryz.cells75, Tryz.cells9k, Tryz.cells3k, e1, e2]

theorem Tryz.tsize : Tryz.prog.types.size = 205 + 1 := by kernel_rfl
set_option maxRecDepth 100000 in
theorem sym_key {s : Sym} (h : Sym.ok s) : ∃ kl, keyOf Tryz.prog 75 (symv s) = some kl := by
  have hf : (symv s).formed Tryz.prog 75 = true := by
    unfold Value.formed
    rw [Tryz.underlying75]
    simp [Tryz.cells75]
  obtain ⟨ls, hls⟩ := Option.isSome_iff_exists.1 (sym_lits (205) h)
  refine ⟨.string (keyBytes ls), ?_⟩
  unfold keyOf
  rw [Tryz.underlying75]
  simp only [Tryz.kt55, hf, Bool.and_self, if_true, Tryz.tsize]
  show (Tryz.prog.keyLits (205 + 1 + 1) 75 [Value.string s.1, .int .i64 (s.2 : Nat)].toArray.toList).map _ = _
  rw [List.toList_toArray, hls]
  rfl

theorem symv_inj {s s' : Sym} (h : symv s = symv s') : s = s' := by
  obtain ⟨a, b⟩ := s
  obtain ⟨c, d⟩ := s'
  simp only [symv, Value.agg.injEq, Array.mk.injEq, List.cons.injEq, Value.string.injEq, Value.int.injEq, and_true, true_and] at h
  simp only [Prod.mk.injEq]
  exact ⟨h.1, by omega⟩

end Go.Proofs.YtijihmncbaoklaaGreat

/-
  The tree's nodes in memory: what they hold; a node more; a number more.
-/
namespace Go.Proofs.YtijihmncbaoklaaGreat
open Go.RowKit Go.Maps

theorem snoc_inj {p q : Path} {a b : Sym} (h : p ++ [a] = q ++ [b]) : p = q ∧ a = b := by
  have := List.append_inj' h rfl
  exact ⟨this.1, by simpa using this.2⟩

open Classical in
/-- What a node's map of children tells. -/
noncomputable def kidM (P : List Path) (na : Path → Nat) (p : Path) : Value → Option Value := fun v => if h : ∃ s, v = symv s ∧ p ++ [s] ∈ P then some (.pointer (some ⟨na (p ++ [Classical.choose h]), 0, none⟩)) else none
theorem kidM_some {P : List Path} {na : Path → Nat} {p : Path} {s : Sym} (h : p ++ [s] ∈ P) : kidM P na p (symv s) = some (.pointer (some ⟨na (p ++ [s]), 0, none⟩)) := by
  have hx : ∃ s', symv s = symv s' ∧ p ++ [s'] ∈ P := ⟨s, rfl, h⟩
  unfold kidM
  rw [dif_pos hx]
  have := (Classical.choose_spec hx).1
  rw [← symv_inj this]
theorem kidM_none {P : List Path} {na : Path → Nat} {p : Path} {s : Sym} (h : p ++ [s] ∉ P) : kidM P na p (symv s) = none := by
  unfold kidM
  rw [dif_neg]
  rintro ⟨s', h1, h2⟩
  rw [symv_inj h1] at h
  exact h h2
theorem kidM_other {P : List Path} {na : Path → Nat} {p : Path} {v : Value} (h : ∀ s, v ≠ symv s) : kidM P na p v = none := by
  unfold kidM
  rw [dif_neg]
  rintro ⟨s', h1, _⟩
  exact h s' h1
theorem kidM_congr {P P' : List Path} {na na' : Path → Nat} {p : Path} (h : ∀ s, (p ++ [s] ∈ P' ↔ p ++ [s] ∈ P)) (hn : ∀ s, p ++ [s] ∈ P → na' (p ++ [s]) = na (p ++ [s])) : kidM P' na' p = kidM P na p := by
  funext v
  by_cases hv : ∃ s, v = symv s
  · obtain ⟨s, rfl⟩ := hv
    by_cases hm : p ++ [s] ∈ P
    · rw [kidM_some hm, kidM_some ((h s).2 hm), hn s hm]
    · rw [kidM_none hm, kidM_none (fun hc => hm ((h s).1 hc))]
  · have hv' : ∀ s, v ≠ symv s := fun s e => hv ⟨s, e⟩
    rw [kidM_other hv', kidM_other hv']
open Classical in
/-- How many children a node has. -/
noncomputable def kidN (P : List Path) (p : Path) : Nat := (P.filter fun q => decide (∃ s, q = p ++ [s])).length
open Classical in
theorem kidN_zero {P : List Path} {p : Path} : kidN P p = 0 ↔ ∀ s, p ++ [s] ∉ P := by
  unfold kidN
  rw [List.length_eq_zero_iff, List.filter_eq_nil_iff]
  constructor
  · intro h s hm
    exact h _ hm (by simp)
  · intro h q hq hd
    obtain ⟨s, rfl⟩ := of_decide_eq_true hd
    exact h s hq
theorem kidN_yes {P : List Path} {p : Path} {s : Sym} : kidN (P ++ [p ++ [s]]) p = kidN P p + 1 := by
  unfold kidN
  rw [List.filter_append, List.length_append, List.filter_cons_of_pos (by simp)]
  rfl
theorem kidN_no {P : List Path} {p q : Path} (h : ¬ ∃ s, q = p ++ [s]) : kidN (P ++ [q]) p = kidN P p := by
  unfold kidN
  rw [List.filter_append, List.length_append, List.filter_cons_of_neg (by simpa using h)]
  rfl

/-- What a node's map of numbers tells. -/
def numM (l : List Int) : Value → Option Value
  | .int .i64 z => if z ∈ l then some (.agg #[]) else none
  | _ => none
theorem numM_snoc {l : List Int} {z : Int} : numM (l ++ [z]) = upd (numM l) (.int .i64 z) (.agg #[]) := by
  funext v
  unfold upd
  by_cases hv : v = .int .i64 z
  · subst hv
    simp [numM]
  · rw [if_neg hv]
    cases v with
    | int k x =>
      cases k <;> try rfl
      have hx : x ≠ z := fun e => hv (by rw [e])
      simp [numM, hx]
    | _ => rfl

/-- The symbol by which one comes to a node; its parent. -/
def lastS (p : Path) : Sym := p.getLast?.getD star
theorem lastS_snoc (p : Path) (s : Sym) : lastS (p ++ [s]) = s := by simp [lastS]
def parV (na : Path → Nat) (p : Path) : Value := if p = [] then .pointer none else .pointer (some ⟨na p.dropLast, 0, none⟩)
theorem parV_snoc (na : Path → Nat) (p : Path) (s : Sym) : parV na (p ++ [s]) = .pointer (some ⟨na p, 0, none⟩) := by simp [parV]

def KidAt (W : World) (P : List Path) (na : Path → Nat) (p : Path) : Option Nat → Prop
  | none => kidN P p = 0
  | some b => MapIs W 75 b (kidM P na p) (kidN P p)
def NumAt (W : World) (l : List Int) : Option Nat → Prop
  | none => l = []
  | some b => MapIs W 3 b (numM l) l.length

/-- Where a tree's nodes lie: the nodes, their maps of children, of numbers. -/
structure Lay where
  na : Path → Nat
  ca : Path → Option Nat
  ua : Path → Option Nat

/-- The nodes in memory. -/
structure Trie (W : World) (P : List Path) (num : Path → List Int) (y : Lay) (B : List Nat) : Prop where
  nod : P.Nodup
  root : [] ∈ P
  clo : ∀ p s, p ++ [s] ∈ P → p ∈ P
  cells : ∀ p ∈ P, W.heap[y.na p]? = some (.cells #[.string (lastS p).1, .int .i64 ((lastS p).2 : Nat), parV y.na p, .map (y.ca p), .map (y.ua p)] 79 (0, 0))
  kid : ∀ p ∈ P, KidAt W P y.na p (y.ca p)
  nums : ∀ p ∈ P, NumAt W (num p) (y.ua p)
  na_inj : ∀ p ∈ P, ∀ q ∈ P, y.na p = y.na q → p = q
  ca_inj : ∀ p ∈ P, ∀ q ∈ P, ∀ b, y.ca p = some b → y.ca q = some b → p = q
  ua_inj : ∀ p ∈ P, ∀ q ∈ P, ∀ b, y.ua p = some b → y.ua q = some b → p = q
  cu_ne : ∀ p ∈ P, ∀ q ∈ P, ∀ b, y.ca p = some b → y.ua q ≠ some b
  own : ∀ p ∈ P, y.na p ∈ B ∧ (∀ b, y.ca p = some b → b ∈ B) ∧ ∀ b, y.ua p = some b → b ∈ B

section
variable {W W' : World} {P : List Path} {num : Path → List Int} {y : Lay} {B : List Nat}

theorem Trie.keep (h : Trie W P num y B) (hk : ∀ r ∈ B, W'.heap[r]? = W.heap[r]?) : Trie W' P num y B := by
  refine { h with cells := fun p hp => (hk _ (h.own p hp).1).trans (h.cells p hp), kid := fun p hp => ?_, nums := fun p hp => ?_ }
  · have := h.kid p hp
    cases hc : y.ca p with
    | none => rw [hc] at this; exact this
    | some b => rw [hc] at this; exact MapIs.same this (hk b ((h.own p hp).2.1 b hc))
  · have := h.nums p hp
    cases hc : y.ua p with
    | none => rw [hc] at this; exact this
    | some b => rw [hc] at this; exact MapIs.same this (hk b ((h.own p hp).2.2 b hc))

theorem Trie.lt (h : Trie W P num y B) {p : Path} (hp : p ∈ P) : y.na p < W.heap.size ∧ (∀ b, y.ca p = some b → b < W.heap.size) ∧ ∀ b, y.ua p = some b → b < W.heap.size := by
  refine ⟨(Array.getElem?_eq_some_iff.1 (h.cells p hp)).1, fun b hb => ?_, fun b hb => ?_⟩
  · have := h.kid p hp; rw [hb] at this; exact MapIs.lt this
  · have := h.nums p hp; rw [hb] at this; exact MapIs.lt this

theorem cells_ne_map {W : World} {a b : Nat} {cs : Array Value} {t : TypeId} {k : TypeId} {m : Value → Option Value} {n : Nat} (h1 : W.heap[a]? = some (.cells cs t (0, 0))) (h2 : MapIs W k b m n) : a ≠ b := by
  rintro rfl
  obtain ⟨D, ⟨es, clock, hb, _⟩, _⟩ := h2
  rw [h1] at hb
  cases hb

theorem Trie.na_ca (h : Trie W P num y B) {p q : Path} (hp : p ∈ P) (hq : q ∈ P) {b : Nat} (hb : y.ca q = some b) : y.na p ≠ b := by
  have := h.kid q hq; rw [hb] at this; exact cells_ne_map (h.cells p hp) this
theorem Trie.na_ua (h : Trie W P num y B) {p q : Path} (hp : p ∈ P) (hq : q ∈ P) {b : Nat} (hb : y.ua q = some b) : y.na p ≠ b := by
  have := h.nums q hq; rw [hb] at this; exact cells_ne_map (h.cells p hp) this

open Classical in
/-- Where it lies with a node more. -/
noncomputable def Lay.grow (y : Lay) (p : Path) (s : Sym) (b N : Nat) : Lay :=
  ⟨fun r => if r = p ++ [s] then N else y.na r, fun r => if r = p ++ [s] then none else if r = p then some b else y.ca r, fun r => if r = p ++ [s] then none else y.ua r⟩

/-- A node more: behind all that was stored. -/
theorem Trie.snoc (h : Trie W P num y B) {p : Path} (hp : p ∈ P) {s : Sym} (hs : p ++ [s] ∉ P) (hnum : num (p ++ [s]) = []) {b N : Nat}
    (hW : ∀ r ∈ B, r ≠ y.na p → y.ca p ≠ some r → W'.heap[r]? = W.heap[r]?)
    (hn : W'.heap[y.na p]? = some (.cells #[.string (lastS p).1, .int .i64 ((lastS p).2 : Nat), parV y.na p, .map (some b), .map (y.ua p)] 79 (0, 0)))
    (hb : MapIs W' 75 b (upd (kidM P y.na p) (symv s) (.pointer (some ⟨N, 0, none⟩))) (kidN P p + 1))
    (hN : W'.heap[N]? = some (.cells #[.string s.1, .int .i64 (s.2 : Nat), .pointer (some ⟨y.na p, 0, none⟩), .map none, .map none] 79 (0, 0)))
    (hNB : N ∉ B) (hbB : y.ca p = some b ∨ b ∉ B) (hbN : b ≠ N) : Trie W' (P ++ [p ++ [s]]) num (y.grow p s b N) (N :: b :: B) := by
  have hne : ∀ {r : Path}, r ∈ P → r ≠ p ++ [s] := fun hr e => hs (e ▸ hr)
  have hna : ∀ {r : Path}, r ∈ P → (y.grow p s b N).na r = y.na r := fun hr => by simp only [Lay.grow]; rw [if_neg (hne hr)]
  have hua : ∀ {r : Path}, r ∈ P → (y.grow p s b N).ua r = y.ua r := fun hr => by simp only [Lay.grow]; rw [if_neg (hne hr)]
  have hca : ∀ {r : Path}, r ∈ P → r ≠ p → (y.grow p s b N).ca r = y.ca r := fun hr hrp => by simp only [Lay.grow]; rw [if_neg (hne hr), if_neg hrp]
  have hcp : (y.grow p s b N).ca p = some b := by simp only [Lay.grow]; rw [if_neg (hne hp)]; simp
  have qna : (y.grow p s b N).na (p ++ [s]) = N := by simp [Lay.grow]
  have qca : (y.grow p s b N).ca (p ++ [s]) = none := by simp [Lay.grow]
  have qua : (y.grow p s b N).ua (p ++ [s]) = none := by simp [Lay.grow]
  have hpar : ∀ {r : Path}, r ∈ P → parV (y.grow p s b N).na r = parV y.na r := fun {r} hr => by
    unfold parV
    by_cases e : r = []
    · rw [if_pos e, if_pos e]
    · rw [if_neg e, if_neg e]
      have hd : r.dropLast ∈ P := by
        obtain ⟨q, a, rfl⟩ : ∃ q a, r = q ++ [a] := ⟨r.dropLast, r.getLast e, (List.dropLast_concat_getLast e).symm⟩
        simpa using h.clo q a hr
      rw [hna hd]
  have hmem : ∀ {r : Path}, r ∈ P ++ [p ++ [s]] → r ∈ P ∨ r = p ++ [s] := fun hr => (List.mem_append.1 hr).imp id List.mem_singleton.1
  have hcaB : ∀ {r : Path}, r ∈ P → r ≠ p → ∀ b', y.ca r = some b' → b' ≠ b := fun {r} hr hrp b' hb' e => by
    subst e
    rcases hbB with h1 | h1
    · exact hrp (h.ca_inj r hr p hp _ hb' h1)
    · exact h1 ((h.own r hr).2.1 _ hb')
  have huaB : ∀ {r : Path}, r ∈ P → ∀ b', y.ua r = some b' → b' ≠ b := fun {r} hr b' hb' e => by
    subst e
    rcases hbB with h1 | h1
    · exact h.cu_ne p hp r hr _ h1 hb'
    · exact h1 ((h.own r hr).2.2 _ hb')
  have keepB : ∀ {r : Path}, r ∈ P → ∀ b', (y.ca r = some b' ∧ r ≠ p) ∨ y.ua r = some b' → W'.heap[b']? = W.heap[b']? := fun {r} hr b' hb' => by
    rcases hb' with ⟨h1, h2⟩ | h1
    · exact hW b' ((h.own r hr).2.1 b' h1) (fun e => h.na_ca hp hr h1 e.symm) (fun e => h2 (h.ca_inj r hr p hp b' h1 e))
    · exact hW b' ((h.own r hr).2.2 b' h1) (fun e => h.na_ua hp hr h1 e.symm) (fun e => h.cu_ne p hp r hr b' e h1)
  refine { nod := ?_, root := List.mem_append_left _ h.root, clo := fun r a hr => ?_, cells := fun r hr => ?_, kid := fun r hr => ?_, nums := fun r hr => ?_, na_inj := fun r hr q hq e => ?_, ca_inj := fun r hr q hq b' h1 h2 => ?_, ua_inj := fun r hr q hq b' h1 h2 => ?_, cu_ne := fun r hr q hq b' h1 h2 => ?_, own := fun r hr => ?_ }
  · rw [List.nodup_append]
    exact ⟨h.nod, by simp, fun a ha c hc e => hs (by rw [← List.mem_singleton.1 hc, ← e]; exact ha)⟩
  · rcases hmem hr with hr | hr
    · exact List.mem_append_left _ (h.clo r a hr)
    · rw [(snoc_inj hr).1]; exact List.mem_append_left _ hp
  · rcases hmem hr with hr | rfl
    · rw [hna hr, hpar hr, hua hr]
      by_cases e : r = p
      · subst e; rw [hcp]; exact hn
      · rw [hca hr e, hW _ (h.own r hr).1 (fun e' => e (h.na_inj r hr p hp e')) (fun e' => h.na_ca hr hp e' rfl)]
        exact h.cells r hr
    · rw [qna, qca, qua, lastS_snoc, parV_snoc, hna hp]
      exact hN
  · rcases hmem hr with hr | rfl
    · by_cases e : r = p
      · subst e
        rw [hcp]
        show MapIs W' 75 b _ _
        have e1 : kidM (P ++ [r ++ [s]]) (y.grow r s b N).na r = upd (kidM P y.na r) (symv s) (.pointer (some ⟨N, 0, none⟩)) := by
          funext v
          unfold upd
          by_cases hv : v = symv s
          · rw [if_pos hv, hv, kidM_some (by simp), qna]
          · rw [if_neg hv]
            by_cases hv' : ∃ s', v = symv s'
            · obtain ⟨s', rfl⟩ := hv'
              have hss : s' ≠ s := fun e => hv (by rw [e])
              by_cases hm : r ++ [s'] ∈ P
              · rw [kidM_some hm, kidM_some (List.mem_append_left _ hm), hna hm]
              · rw [kidM_none hm, kidM_none]
                intro hc
                rcases hmem hc with hc | hc
                · exact hm hc
                · exact hss (snoc_inj hc).2
            · have hv'' : ∀ s', v ≠ symv s' := fun s' e => hv' ⟨s', e⟩
              rw [kidM_other hv'', kidM_other hv'']
        rw [e1, kidN_yes]
        exact hb
      · have h1 := h.kid r hr
        rw [hca hr e]
        have hno : ¬ ∃ s', p ++ [s] = r ++ [s'] := fun ⟨s', he⟩ => e (snoc_inj he).1.symm
        have e1 : kidM (P ++ [p ++ [s]]) (y.grow p s b N).na r = kidM P y.na r := kidM_congr (fun s' => ⟨fun hm => by
          rcases hmem hm with hm | hm
          · exact hm
          · exact absurd ⟨s', hm.symm⟩ hno, fun hm => List.mem_append_left _ hm⟩) (fun s' hm => hna hm)
        have e2 : kidN (P ++ [p ++ [s]]) r = kidN P r := kidN_no hno
        cases hc : y.ca r with
        | none => rw [hc] at h1; show kidN _ _ = 0; rw [e2]; exact h1
        | some b' =>
          rw [hc] at h1
          show MapIs W' 75 b' _ _
          rw [e1, e2]
          exact MapIs.same h1 (keepB hr b' (.inl ⟨hc, e⟩))
    · rw [qca]
      show kidN _ _ = 0
      rw [kidN_zero]
      intro s' hm
      rcases hmem hm with hm | hm
      · exact hs (h.clo _ _ hm)
      · have := congrArg List.length hm; simp at this
  · rcases hmem hr with hr | rfl
    · rw [hua hr]
      have h1 := h.nums r hr
      cases hc : y.ua r with
      | none => rw [hc] at h1; exact h1
      | some b' => rw [hc] at h1; exact MapIs.same h1 (keepB hr b' (.inr hc))
    · rw [qua]; exact hnum
  · rcases hmem hr with hr | rfl
    · rcases hmem hq with hq | rfl
      · rw [hna hr, hna hq] at e; exact h.na_inj r hr q hq e
      · rw [hna hr, qna] at e; exact absurd (e ▸ (h.own r hr).1) hNB
    · rcases hmem hq with hq | rfl
      · rw [hna hq, qna] at e; exact absurd (e ▸ (h.own q hq).1) hNB
      · rfl
  · have hcr : ∀ {r : Path} {b' : Nat}, r ∈ P ++ [p ++ [s]] → (y.grow p s b N).ca r = some b' → (r = p ∧ b' = b) ∨ (r ∈ P ∧ r ≠ p ∧ y.ca r = some b' ∧ b' ≠ b) := fun {r b'} hr h1 => by
      rcases hmem hr with hr | rfl
      · by_cases e : r = p
        · subst e; rw [hcp] at h1; exact .inl ⟨rfl, (Option.some.inj h1).symm⟩
        · rw [hca hr e] at h1; exact .inr ⟨hr, e, h1, hcaB hr e b' h1⟩
      · rw [qca] at h1; cases h1
    rcases hcr hr h1 with ⟨rfl, e1⟩ | ⟨a1, a2, a3, a4⟩
    · rcases hcr hq h2 with ⟨rfl, _⟩ | ⟨_, _, _, c4⟩
      · rfl
      · exact absurd e1 c4
    · rcases hcr hq h2 with ⟨_, c4⟩ | ⟨c1, _, c3, _⟩
      · exact absurd c4 a4
      · exact h.ca_inj r a1 q c1 b' a3 c3
  · rcases hmem hr with hr | rfl
    · rcases hmem hq with hq | rfl
      · rw [hua hr] at h1; rw [hua hq] at h2; exact h.ua_inj r hr q hq b' h1 h2
      · rw [qua] at h2; cases h2
    · rw [qua] at h1; cases h1
  · rcases hmem hq with hq' | rfl
    · rw [hua hq'] at h2
      rcases hmem hr with hr' | rfl
      · by_cases e : r = p
        · rw [e, hcp] at h1
          exact huaB hq' b' h2 (Option.some.inj h1).symm
        · rw [hca hr' e] at h1; exact h.cu_ne r hr' q hq' b' h1 h2
      · rw [qca] at h1; cases h1
    · rw [qua] at h2; cases h2
  · rcases hmem hr with hr | rfl
    · refine ⟨by rw [hna hr]; simp [(h.own r hr).1], fun b' hb' => ?_, fun b' hb' => ?_⟩
      · by_cases e : r = p
        · subst e; rw [hcp] at hb'; cases hb'; simp
        · rw [hca hr e] at hb'; simp [(h.own r hr).2.1 b' hb']
      · rw [hua hr] at hb'; simp [(h.own r hr).2.2 b' hb']
    · refine ⟨by rw [qna]; simp, fun b' hb' => ?_, fun b' hb' => ?_⟩
      · rw [qca] at hb'; cases hb'
      · rw [qua] at hb'; cases hb'

end

end Go.Proofs.YtijihmncbaoklaaGreat
