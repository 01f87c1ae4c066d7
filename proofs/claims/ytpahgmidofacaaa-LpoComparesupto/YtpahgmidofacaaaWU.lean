/-
  headsOf.
-/
import Derived.Test.YtpahgmidofacaaaWP
import Derived.Test.YtpahgmidofacaaaWT
import Derived.Test.YtpahgmidofacaaaWM
namespace Go.Proofs.Ytpahgmidofacaaa
open Go.RowKit Go.Maps

theorem eg62 : ∀ args w, (callFunc 62 args).run Try.prog w = .ok (.enter 62 args) w := enters_of Try.func62 (by kernel_rfl) rfl

set_option maxRecDepth 100000 in
set_option maxHeartbeats 1000000 in
theorem sortedFunc_any (G : Sg) (vn vw : Value) (gb Bm b : Nat) (Sy : List Sym) (ρ : Sym → Nat) (w : World) (hg : SgAt w G vn vw) (g0 : w.cell? ⟨gb, 0, none⟩ = some vn) (g1 : w.cell? ⟨gb, 1, none⟩ = some vw) (hgb : gb < w.heap.size)
    (hn : Sy.Nodup) (hf : ∀ s ∈ Sy, s.1.size ≤ 64 ∧ s.2 ≤ 16) (hM : MapIs w 87 b (smap Sy ρ) Sy.length) (hBm : Bm < w.heap.size) (hm : w.cell? ⟨Bm, 0, none⟩ = some (.map (some b))) (hl : Sy.length ≤ 1000000) :
    Calls Try.prog 41 #[.func (.func 62) #[] #[.pointer (some ⟨Bm, 0, none⟩)], .func (.func 43) #[] #[.pointer (some ⟨gb, 0, none⟩)]] w fun e W' => ∃ v ss, e = .returned v ∧ ss.Perm Sy ∧ SortedS G ss ∧ W'.ownsRow w.heap.size 87 2 v ss.length (flatS ss) ∧ Below w.heap.size w W' := by
  have hcol := collect_any 62 #[.pointer (some ⟨Bm, 0, none⟩)] eg62 (fun ss => ss.Perm Sy) Sy.length hl w (fun W hW => keys1_any w Bm b Sy ρ hn hf hM.lt hM W hW (kc hW hBm hm))
  have hsort : ∀ (W : World) (v : Value) (ss : List Sym), ss.Perm Sy → W.ownsRow w.heap.size 87 2 v ss.length (flatS ss) → Below w.heap.size w W → Calls Try.prog 61 #[v, .func (.func 43) #[] #[.pointer (some ⟨gb, 0, none⟩)]] W fun e W' => e = .returned (.tuple #[]) ∧ Hid (∃ ss', ss'.Perm Sy ∧ SortedS G ss' ∧ W'.ownsRow w.heap.size 87 2 v ss'.length (flatS ss') ∧ Below w.heap.size w W') := fun W v ss hp hr hb => by
    have hlen : ss.length ≤ 1000000 := by rw [hp.length_eq]; exact hl
    refine (sortS_any G vn vw gb w hg g0 g1 hgb ss v ss.length W hb hr hlen).mono ?_
    rintro e W' ⟨he, ss', hp', hs', hr', hgr⟩
    refine ⟨he, ss', hp'.trans hp, hs', by rw [hp'.length_eq]; exact hr', hb.grown hgr hb.size (fun k e => (hr.lt k e).1)⟩
  clear hg g0 g1 hM hm
  go_enter Try.func41, Try.ntmps41
  go_wp2_with fail
  refine hcol.mono ?_
  rintro e W2 ⟨v, ss, rfl, h1, h2, h3⟩
  have hs := hsort W2 v ss h1 h2 h3
  obtain ⟨va, vc, rfl⟩ := row_slice h2
  clear hsort hcol h1 h2 h3
  go_wp2_with fail
  refine hs.mono ?_
  rintro e W3 ⟨rfl, HF⟩
  go_wp2
  go_ret
  obtain ⟨ss', q1, q2, q3, q4⟩ := HF.out
  exact ⟨_, ss', rfl, q1, q2, q3, q4⟩

/-- The rank of a symbol: its place, from 1 on. -/
def ixS (l : List Sym) (s : Sym) : Option Nat := l.findIdx? (fun x => decide (x = s))
def rkL (l : List Sym) (s : Sym) : Nat := match ixS l s with
  | some i => i + 1
  | none => 0
theorem ixS_none {l : List Sym} {x : Sym} : ixS l x = none ↔ x ∉ l := by
  unfold ixS
  rw [List.findIdx?_eq_none_iff]
  constructor
  · intro h hx
    have := h x hx
    simp at this
  · intro h y hy
    simp only [decide_eq_false_iff_not]
    exact fun e => h (e ▸ hy)
theorem ixS_some {l : List Sym} {x : Sym} (h : x ∈ l) : ∃ i, ixS l x = some i ∧ ∃ hi : i < l.length, l[i] = x := by
  cases e : ixS l x with
  | none => exact absurd h (ixS_none.1 e)
  | some i =>
    refine ⟨i, rfl, ?_⟩
    unfold ixS at e
    obtain ⟨h1, h2, _⟩ := List.findIdx?_eq_some_iff_getElem.1 e
    exact ⟨h1, by simpa using h2⟩
theorem rkL_in {l : List Sym} {x : Sym} (h : x ∈ l) : ∃ i, rkL l x = i + 1 ∧ ∃ hi : i < l.length, l[i] = x := by
  obtain ⟨i, e, hi⟩ := ixS_some h
  exact ⟨i, by unfold rkL; rw [e], hi⟩
theorem rkL_le (l : List Sym) (x : Sym) : rkL l x ≤ l.length := by
  by_cases h : x ∈ l
  · obtain ⟨i, e, hi, _⟩ := rkL_in h
    omega
  · unfold rkL
    rw [ixS_none.2 h]
    simp
theorem rkL_snoc {l : List Sym} {s : Sym} (h : s ∉ l) : rkL (l ++ [s]) = fun r => if r = s then l.length + 1 else rkL l r := by
  funext r
  unfold rkL ixS
  rw [List.findIdx?_append]
  by_cases e : r = s
  · subst e
    rw [if_pos rfl]
    have : List.findIdx? (fun x => decide (x = r)) l = none := ixS_none.2 h
    rw [this]
    simp [List.findIdx?_cons]
  · rw [if_neg e]
    cases hf : List.findIdx? (fun x => decide (x = r)) l with
    | some i => simp
    | none => simp [List.findIdx?_cons, Ne.symm e]

/-- Ranks by a list that is sorted follow the order. -/
theorem ranks_of {G : Sg} {Sy ss : List Sym} (hp : ss.Perm Sy) (hn : Sy.Nodup) (hs : SortedS G ss) : Ranks G Sy (rkL ss) := by
  have hnd : ss.Nodup := hp.nodup_iff.2 hn
  have main : ∀ (i j : Nat) (hj : j < ss.length) (hij : i < j), G.sym ss[j].1 ss[i].1 ss[j].2 ss[i].2 := fun i j hj hij => by
    have hno := hs i j hj hij
    have hne : ss[j] ≠ ss[i] := fun e => List.pairwise_iff_getElem.1 hnd i j (by omega) hj hij e.symm
    have ht : ss[j].1 ≠ ss[i].1 ∨ ss[j].2 ≠ ss[i].2 := by
      refine Classical.byContradiction fun k => hne (Prod.ext ?_ ?_)
      · exact Classical.byContradiction fun e => k (.inl e)
      · exact Classical.byContradiction fun e => k (.inr e)
    rcases sym_total G ht with k | k
    · exact k
    · rw [symB_iff.2 k] at hno; cases hno
  refine ⟨fun s hs' => ?_, fun s hs' r hr => ?_⟩
  · obtain ⟨i, e, _⟩ := rkL_in (hp.mem_iff.2 hs')
    omega
  · obtain ⟨j, ej, hj, hjs⟩ := rkL_in (hp.mem_iff.2 hs')
    obtain ⟨i, ei, hi, his⟩ := rkL_in (hp.mem_iff.2 hr)
    subst hjs his
    rw [ej, ei]
    constructor
    · intro h
      exact main i j hj (by omega)
    · intro h
      rcases Nat.lt_trichotomy i j with k | k | k
      · omega
      · subst k
        exact absurd h (sym_irrefl G _ _)
      · exact absurd (sym_trans h (main j i hi k)) (sym_irrefl G _ _)

/-- What headsOf hands back. -/
structure Heads (G : Sg) (ts : List T) (W : World) (br bv : Nat) (Sy : List Sym) (V : List Int) (ρ : Sym → Nat) : Prop where
  mr : MapIs W 87 br (smap Sy ρ) Sy.length
  mv : MapIs W 3 bv (vmap V) V.length
  ne : br ≠ bv
  ns : Sy.Nodup
  nv : V.Nodup
  fs : ∀ s ∈ Sy, s.1.size ≤ 64 ∧ s.2 ≤ 16
  fv : ∀ v ∈ V, 0 ≤ v ∧ v < 1000000
  rk : Ranks G Sy ρ
  le : ∀ s, ρ s ≤ Sy.length
  st : ∀ t ∈ ts, ∀ s ∈ t.sy, s ∈ Sy
  vt : ∀ t ∈ ts, ∀ x ∈ t.vs, x ∈ V
  ln : Sy.length + V.length ≤ szs ts
  fe : ∀ s ∈ Sy, s.1.size ≠ 0

end Go.Proofs.Ytpahgmidofacaaa
