import Derived.Test.YtijihmncbaoklaaUN
import Derived.Test.YtijihmncbaoklaaUS

/-
  A node taken out of a tree.
-/
namespace Go.Proofs.Ytijihmncbaoklaa
open Go.RowKit Go.Maps

open Classical in
noncomputable def outP (P : List Path) (q : Path) : List Path := P.filter fun r => decide (r ≠ q)
theorem outP_mem {P : List Path} {q r : Path} : r ∈ outP P q ↔ r ∈ P ∧ r ≠ q := by simp [outP]
theorem outP_nodup {P : List Path} {q : Path} (h : P.Nodup) : (outP P q).Nodup := h.sublist List.filter_sublist
open Classical in
theorem out_len : ∀ {P : List Path} {q : Path}, P.Nodup → q ∈ P → (outP P q).length + 1 = P.length
  | [], _, _, h => by cases h
  | a :: r, q, hn, hm => by
    rw [List.nodup_cons] at hn
    by_cases h : a = q
    · subst h
      have e : outP (a :: r) a = r := by
        unfold outP
        rw [List.filter_cons_of_neg (by simp), List.filter_eq_self.2]
        intro x hx
        simpa using (fun (e : x = a) => hn.1 (e ▸ hx))
      rw [e]
      rfl
    · have hm' : q ∈ r := by
        rcases List.mem_cons.1 hm with e | e
        · exact absurd e.symm h
        · exact e
      have := out_len hn.2 hm'
      have e : outP (a :: r) q = a :: outP r q := by
        unfold outP
        rw [List.filter_cons_of_pos (by simpa using h)]
      rw [e, List.length_cons, List.length_cons]
      omega

open Classical in
theorem kidN_out_yes {P : List Path} {p : Path} {s : Sym} (hn : P.Nodup) (hm : p ++ [s] ∈ P) : kidN (outP P (p ++ [s])) p + 1 = kidN P p := by
  have h1 : (outP (P.filter fun q => decide (∃ s, q = p ++ [s])) (p ++ [s])).length + 1 = (P.filter fun q => decide (∃ s, q = p ++ [s])).length := out_len (hn.sublist List.filter_sublist) (List.mem_filter.2 ⟨hm, by simp⟩)
  unfold kidN
  rw [← h1]
  unfold outP
  rw [List.filter_filter, List.filter_filter]
  congr 2
  refine List.filter_congr fun x _ => ?_
  rw [Bool.and_comm]
open Classical in
theorem kidN_out_no {P : List Path} {p q : Path} (h : ¬ ∃ s, q = p ++ [s]) : kidN (outP P q) p = kidN P p := by
  unfold kidN outP
  rw [List.filter_filter]
  congr 1
  refine List.filter_congr fun x _ => ?_
  by_cases hx : ∃ s, x = p ++ [s]
  · have : x ≠ q := fun e => h (e ▸ hx)
    simp [hx, this]
  · simp [hx]

theorem kidM_out {P : List Path} {na : Path → Nat} {p : Path} {s : Sym} : kidM (outP P (p ++ [s])) na p = del (kidM P na p) (symv s) := by
  funext v
  by_cases hv : ∃ s', v = symv s'
  · obtain ⟨s', rfl⟩ := hv
    by_cases hs : s' = s
    · subst hs
      rw [kidM_none (by rw [outP_mem]; simp)]
      simp [del]
    · have hne : symv s' ≠ symv s := fun e => hs (symv_inj e)
      rw [del, if_neg hne]
      by_cases hm : p ++ [s'] ∈ P
      · rw [kidM_some hm, kidM_some (outP_mem.2 ⟨hm, fun e => hs (snoc_inj e).2⟩)]
      · rw [kidM_none hm, kidM_none (fun hc => hm (outP_mem.1 hc).1)]
  · have hv' : ∀ s', v ≠ symv s' := fun s' e => hv ⟨s', e⟩
    rw [kidM_other hv', del]
    by_cases e : v = symv s
    · rw [if_pos e]
    · rw [if_neg e, kidM_other hv']

/-- A node without children goes. -/
theorem Trie.out {W W' : World} {P : List Path} {num : Path → List Int} {y : Lay} {B : List Nat} (h : Trie W P num y B) {p : Path} {s : Sym} (hq : p ++ [s] ∈ P) (hk : ∀ s', p ++ [s] ++ [s'] ∉ P) {b : Nat} (hb : y.ca p = some b)
    (hM : MapIs W' 55 b (del (kidM P y.na p) (symv s)) (kidN P p - 1)) (hg : W.grownBy W' (some b)) (hlt : ∀ r ∈ B, r < W.heap.size) : Trie W' (outP P (p ++ [s])) num y B := by
  have hp : p ∈ P := h.clo p s hq
  have hbM : MapIs W 55 b (kidM P y.na p) (kidN P p) := by have := h.kid p hp; rw [hb] at this; exact this
  have blk : ∀ r ∈ B, r ≠ b → W'.heap[r]? = W.heap[r]? := fun r hr hn => hg.block r (hlt r hr) (fun e => hn (Option.some.inj e))
  have sub : ∀ {r}, r ∈ outP P (p ++ [s]) → r ∈ P := fun hr => (outP_mem.1 hr).1
  refine ⟨outP_nodup h.nod, outP_mem.2 ⟨h.root, by simp⟩, fun r s' hr => ?_, fun r hr => ?_, fun r hr => ?_, fun r hr => ?_, fun r hr q hq' => h.na_inj r (sub hr) q (sub hq'), fun r hr q hq' => h.ca_inj r (sub hr) q (sub hq'), fun r hr q hq' => h.ua_inj r (sub hr) q (sub hq'), fun r hr q hq' => h.cu_ne r (sub hr) q (sub hq'), fun r hr => h.own r (sub hr)⟩
  · exact outP_mem.2 ⟨h.clo r s' (sub hr), fun e => hk s' (e ▸ sub hr)⟩
  · exact (blk _ (h.own r (sub hr)).1 (cells_ne_map (h.cells r (sub hr)) hbM)).trans (h.cells r (sub hr))
  · have hr' := sub hr
    have hkid := h.kid r hr'
    by_cases e : r = p
    · subst e
      rw [hb]
      show MapIs W' 55 b (kidM (outP P (r ++ [s])) y.na r) (kidN (outP P (r ++ [s])) r)
      rw [kidM_out]
      have := kidN_out_yes h.nod hq
      rw [show kidN (outP P (r ++ [s])) r = kidN P r - 1 by omega]
      exact hM
    · have hno : ¬ ∃ s', p ++ [s] = r ++ [s'] := fun ⟨s', e'⟩ => e (snoc_inj e').1.symm
      have e1 : kidN (outP P (p ++ [s])) r = kidN P r := kidN_out_no hno
      have e2 : kidM (outP P (p ++ [s])) y.na r = kidM P y.na r := kidM_congr (fun s' => by rw [outP_mem]; exact ⟨fun h => h.1, fun h => ⟨h, fun e' => hno ⟨s', e'.symm⟩⟩⟩) (fun _ _ => rfl)
      cases hc : y.ca r with
      | none => rw [hc] at hkid; show kidN (outP P (p ++ [s])) r = 0; rw [e1]; exact hkid
      | some b' =>
        rw [hc] at hkid
        show MapIs W' 55 b' (kidM (outP P (p ++ [s])) y.na r) (kidN (outP P (p ++ [s])) r)
        rw [e1, e2]
        exact MapIs.same hkid (blk b' ((h.own r hr').2.1 b' hc) (fun e' => e (h.ca_inj r hr' p hp b' hc (e' ▸ hb))))
  · have hr' := sub hr
    have hn := h.nums r hr'
    cases hc : y.ua r with
    | none => rw [hc] at hn; exact hn
    | some b' =>
      rw [hc] at hn
      exact MapIs.same hn (blk b' ((h.own r hr').2.2 b' hc) (fun e' => h.cu_ne p hp r hr' b hb (e' ▸ hc)))

end Go.Proofs.Ytijihmncbaoklaa

/-
  needed; prune.
-/
namespace Go.Proofs.Ytijihmncbaoklaa
open Go.RowKit Go.Maps

theorem len_nil56 (W : World) : (Builtin.len_ #[56] 3 #[.map none]).run Try.prog W = .ok (.int .i64 0) W := by kernel_rfl
theorem len_nil57 (W : World) : (Builtin.len_ #[57] 3 #[.map none]).run Try.prog W = .ok (.int .i64 0) W := by kernel_rfl

theorem kids_len {W : World} {P : List Path} {num : Path → List Int} {y : Lay} {B : List Nat} (h : Trie W P num y B) {q : Path} (hq : q ∈ P) : (Builtin.len_ #[56] 3 #[.map (y.ca q)]).run Try.prog W = .ok (.int .i64 (kidN P q : Nat)) W := by
  have hk := h.kid q hq
  cases hc : y.ca q with
  | none =>
    rw [hc] at hk
    have e : kidN P q = 0 := hk
    rw [e]
    exact len_nil56 W
  | some b =>
    rw [hc] at hk
    exact MapIs.len hk Try.underlying56 3
theorem nums_len {W : World} {P : List Path} {num : Path → List Int} {y : Lay} {B : List Nat} (h : Trie W P num y B) {q : Path} (hq : q ∈ P) : (Builtin.len_ #[57] 3 #[.map (y.ua q)]).run Try.prog W = .ok (.int .i64 ((num q).length : Nat)) W := by
  have hk := h.nums q hq
  cases hc : y.ua q with
  | none =>
    rw [hc] at hk
    have e : num q = [] := hk
    rw [e]
    exact len_nil57 W
  | some b =>
    rw [hc] at hk
    exact MapIs.len hk Try.underlying57 3

set_option maxRecDepth 100000 in
set_option maxHeartbeats 2000000 in
theorem needed_any {W : World} {P : List Path} {num : Path → List Int} {y : Lay} {B : List Nat} (h : Trie W P num y B) {q : Path} (hq : q ∈ P) :
    Calls Try.prog 36 #[.pointer (some ⟨y.na q, 0, none⟩)] W fun e W' => e = .returned (.bool (decide (0 < kidN P q ∨ 0 < (num q).length))) ∧ W' = W := by
  have c3 : W.cell? ⟨y.na q, 3, none⟩ = some (.map (y.ca q)) := cell_store (vs := [_, _, _, _, _]) (h.cells q hq) rfl
  have c4 : W.cell? ⟨y.na q, 4, none⟩ = some (.map (y.ua q)) := cell_store (vs := [_, _, _, _, _]) (h.cells q hq) rfl
  have l1 := kids_len h hq
  have l2 := nums_len h hq
  obtain ⟨ka, hka⟩ : ∃ k, y.ca q = k := ⟨_, rfl⟩
  obtain ⟨ua, hua⟩ : ∃ k, y.ua q = k := ⟨_, rfl⟩
  obtain ⟨n, hn⟩ : ∃ n, kidN P q = n := ⟨_, rfl⟩
  obtain ⟨m, hm⟩ : ∃ n, (num q).length = n := ⟨_, rfl⟩
  rw [hka] at c3 l1
  rw [hua] at c4 l2
  rw [hn] at l1 ⊢
  rw [hm] at l2 ⊢
  clear hn hm hka hua h
  by_cases h0 : 0 < n
  · have hd : decide (0 < n ∨ 0 < m) = true := by simp [h0]
    rw [hd]
    go_enter Try.func36, Try.ntmps36
    go_wp2
    go_ret
    exact ⟨rfl, rfl⟩
  · have hd : decide (0 < n ∨ 0 < m) = decide (0 < m) := by simp [h0]
    rw [hd]
    go_enter Try.func36, Try.ntmps36
    go_wp2
    go_ret
    exact ⟨by simp, rfl⟩

end Go.Proofs.Ytijihmncbaoklaa

/-
  prune.
-/
namespace Go.Proofs.Ytijihmncbaoklaa
open Go.RowKit Go.Maps Go.Shelf

attribute [local go_sem] Oper.semAt_some

def boxN (x : Nat) (W : World) : Nat := match W.cell? ⟨x, 2, none⟩ with | some (.int .i64 z) => z.toNat | _ => 0

/-- While nodes are taken away: those of F stay, and the way to q. -/
structure PrI (W0 : World) (x : Nat) (tmv : Value) (num : Path → List Int) (y : Lay) (B : List Nat) (F : Path → Prop) (q : Path) (P : List Path) (W : World) : Prop where
  tre : Tre W x tmv P num y B
  cur : q ∈ P
  mem : ∀ r, r ∈ P ↔ F r ∨ r <+: q
  only : Only (x :: B) W0 W

/-- What is kept: F is what lies on the way to a term's end. -/
structure Fam (F : Path → Prop) (num : Path → List Int) : Prop where
  root : F []
  down : ∀ p s, F (p ++ [s]) → F p
  num_in : ∀ q, num q ≠ [] → F q
  up : ∀ q, F q → num q ≠ [] ∨ ∃ s, F (q ++ [s])

section
variable {W0 W W' : World} {x : Nat} {tmv : Value} {num : Path → List Int} {y : Lay} {B : List Nat} {F : Path → Prop} {q : Path} {P : List Path}

theorem snoc_not_pre (q : Path) (s : Sym) : ¬ q ++ [s] <+: q := fun h => by have := h.length_le; simp at this; omega

theorem PrI.need (h : PrI W0 x tmv num y B F q P W) (hF : Fam F num) : (0 < kidN P q ∨ 0 < (num q).length) ↔ F q := by
  constructor
  · rintro (h1 | h1)
    · have : ¬ ∀ s, q ++ [s] ∉ P := fun hn => by have := kidN_zero.2 hn; omega
      obtain ⟨s, hs⟩ := Classical.not_forall.1 this
      have hs : q ++ [s] ∈ P := Classical.not_not.1 hs
      rcases (h.mem _).1 hs with h2 | h2
      · exact hF.down _ _ h2
      · exact absurd h2 (snoc_not_pre q s)
    · exact hF.num_in q (fun e => by rw [e] at h1; simp at h1)
  · intro h1
    rcases hF.up q h1 with h2 | ⟨s, h2⟩
    · exact .inr (List.length_pos_iff.2 h2)
    · refine .inl (Nat.pos_of_ne_zero fun e => ?_)
      exact kidN_zero.1 e s ((h.mem _).2 (.inl h2))

theorem fam_down (hF : Fam F num) : ∀ (s r : Path), F (r ++ s) → F r
  | [], r, h => by simpa using h
  | a :: s, r, h => hF.down r a (fam_down hF s (r ++ [a]) (by simpa using h))

theorem PrI.done (h : PrI W0 x tmv num y B F q P W) (hF : Fam F num) (hq : F q) : ∀ r, r ∈ P ↔ F r := fun r => by
  rw [h.mem]
  constructor
  · rintro (h1 | ⟨s, rfl⟩)
    · exact h1
    · exact fam_down hF s r hq
  · exact .inl

theorem pre_snoc {r p : Path} {s : Sym} : r <+: p ++ [s] ∧ r ≠ p ++ [s] ↔ r <+: p := by
  rw [List.prefix_concat_iff]
  constructor
  · rintro ⟨h1 | h1, h2⟩
    · exact absurd h1 h2
    · exact h1
  · intro h
    exact ⟨.inr h, fun e => snoc_not_pre p s (e ▸ h)⟩
end

set_option maxRecDepth 100000 in
set_option maxHeartbeats 8000000 in
theorem prune_any {W0 W : World} {x : Nat} {tmv : Value} {num : Path → List Int} {y : Lay} {B : List Nat} {F : Path → Prop} {q : Path} {P : List Path} (hF : Fam F num) (h : PrI W0 x tmv num y B F q P W) (hoks : ∀ r ∈ P, ∀ s ∈ r, Sym.ok s) (hpl : P.length ≤ 1000000) :
    Calls Try.prog 19 #[.pointer (some ⟨x, 0, none⟩), .pointer (some ⟨y.na q, 0, none⟩)] W fun e W' => e = .returned (.tuple #[]) ∧ ∃ P', Tre W' x tmv P' num y B ∧ (∀ r, r ∈ P' ↔ F r) ∧ Only (x :: B) W0 W' ∧ P'.length ≤ P.length := by
  refine (callsIn_wide (n := 9)).1 ?_
  have HF := hid hF
  have HI := hid h
  have HO := hid hoks
  have HL := hid hpl
  clear hF h hoks hpl
  refine callsIn_of_wp Try.func19 rfl trivial ?_ rfl
  simp only [Try.ntmps19, List.size_toArray, List.length_cons, List.length_nil, Nat.reduceAdd, Nat.reduceSub, Array.replicate_succ, Array.replicate_zero, List.push_toArray, List.append_toArray, List.nil_append, List.cons_append]
  gi_wp2
  gi_loopw [1] (fun v wr => ∃ (q : Path) (P1 : List Path), v = .pointer (some ⟨y.na q, 0, none⟩) ∧ Hid (PrI W0 x tmv num y B F q P1 wr ∧ (∀ r ∈ P1, ∀ s ∈ r, Sym.ok s) ∧ P1.length ≤ P.length)) (fun _ wr => boxN x wr)
  case atStart => exact ⟨q, P, rfl, HI.out, HO.out, Nat.le_refl _⟩
  case round =>
    obtain ⟨q, P1, rfl, hi⟩ := hrel
    have hneed := needed_any hi.out.1.tre.tri hi.out.1.cur
    by_cases hq : F q
    · have hd : decide (0 < kidN P1 q ∨ 0 < (num q).length) = true := by simpa using (hi.out.1.need HF.out).2 hq
      rw [hd] at hneed
      gi_wp2_with fail
      refine ⟨trivial, (callsIn_wide.2 hneed).mono ?_⟩
      rintro e w' ⟨rfl, hw'⟩
      rw [hw']
      clear hw' hneed
      gi_wp2
      go_end0
      exact ⟨rfl, P1, hi.out.1.tre, hi.out.1.done HF.out hq, hi.out.1.only, hi.out.2.2⟩
    · have hnd : ¬ (0 < kidN P1 q ∨ 0 < (num q).length) := fun h => hq ((hi.out.1.need HF.out).1 h)
      have hd : decide (0 < kidN P1 q ∨ 0 < (num q).length) = false := by simpa using hnd
      rw [hd] at hneed
      obtain ⟨p, s, rfl⟩ : ∃ p s, q = p ++ [s] := by
        rcases List.eq_nil_or_concat q with e | ⟨p, s, e⟩
        · subst e; exact absurd HF.out.root hq
        · exact ⟨p, s, by simpa using e⟩
      have hT := hi.out.1.tre
      have hcur := hi.out.1.cur
      have hp := hT.tri.clo p s hcur
      obtain ⟨b, hb⟩ : ∃ b, y.ca p = some b := by
        cases hc : y.ca p with
        | none =>
          have := hT.tri.kid p hp
          rw [hc] at this
          exact absurd hcur (kidN_zero.1 this s)
        | some b => exact ⟨b, rfl⟩
      have hMp : MapIs wr 55 b (kidM P1 y.na p) (kidN P1 p) := by have := hT.tri.kid p hp; rw [hb] at this; exact this
      have hsok : Sym.ok s := hi.out.2.1 _ hcur s (by simp)
      obtain ⟨kl, hkl⟩ := sym_key hsok
      obtain ⟨Wd, hWd⟩ : ∃ X, wr.drew = X := ⟨_, rfl⟩
      have bd : Below wr.heap.size wr Wd := by rw [← hWd]; exact (Below.refl _ wr).drew
      have hTd : Tre Wd x tmv P1 num y B := ⟨hT.tri.keep (fun r hr => bd.block r (hT.blt r hr)), fun r hr => Nat.lt_of_lt_of_le (hT.blt r hr) bd.size, (bd.block x ((Array.getElem?_eq_some_iff.1 hT.box).1)).trans hT.box, hT.xB, hT.zer⟩
      obtain ⟨W', hdel, hM', hg'⟩ := (hMp.same (bd.block b hMp.lt)).drop keyed55 Try.underlying56 hkl 0
      rw [kidM_some hcur] at hM'
      have hTr' := hTd.tri.out hcur (fun s' => kidN_zero.1 (by omega) s') hb hM' hg' hTd.blt
      have bB : b ∈ B := (hT.tri.own p hp).2.1 b hb
      have xb : x ≠ b := fun e => hT.xB (e ▸ bB)
      have xl := (Array.getElem?_eq_some_iff.1 hTd.box).1
      have x' : W'.heap[x]? = some (.cells [Value.pointer (some ⟨y.na [], 0, none⟩), tmv, .int .i64 (P1.length : Nat)].toArray 45 (0, 0)) := (hg'.block x xl (fun e => xb (Option.some.inj e))).trans hTd.box
      have hnq : y.na (p ++ [s]) ≠ b := cells_ne_map (hT.tri.cells _ hcur) hMp
      have hnx : y.na (p ++ [s]) ≠ x := fun e => hT.xB (e ▸ (hT.tri.own _ hcur).1)
      have cq' : W'.heap[y.na (p ++ [s])]? = Wd.heap[y.na (p ++ [s])]? := hg'.block _ (hTd.blt _ (hT.tri.own _ hcur).1) (fun e => hnq (Option.some.inj e))
      have zq := hTd.tri.cells _ hcur
      rw [lastS_snoc, parV_snoc] at zq
      have a0 : Wd.cell? ⟨y.na (p ++ [s]), 0, none⟩ = some (.string s.1) := cell_store (vs := [_, _, _, _, _]) zq rfl
      have a1 : Wd.cell? ⟨y.na (p ++ [s]), 1, none⟩ = some (.int .i64 (s.2 : Nat)) := cell_store (vs := [_, _, _, _, _]) zq rfl
      have a2 : Wd.cell? ⟨y.na (p ++ [s]), 2, none⟩ = some (.pointer (some ⟨y.na p, 0, none⟩)) := cell_store (vs := [_, _, _, _, _]) zq rfl
      have a3 : Wd.cell? ⟨y.na p, 3, none⟩ = some (.map (some b)) := by
        have := cell_store (vs := [_, _, _, _, _]) (i := 3) (hTd.tri.cells p hp) rfl
        rw [hb] at this
        exact this
      have d2 : W'.cell? ⟨x, 2, none⟩ = some (.int .i64 (P1.length : Nat)) := cell_store (vs := [_, _, _]) x' rfl
      have f2 : W'.frozen? ⟨x, 2, none⟩ = false := frozen_cells x'
      have hlo := out_len hT.tri.nod hcur
      obtain ⟨n1, hn1⟩ : ∃ n, (outP P1 (p ++ [s])).length = n := ⟨_, rfl⟩
      have hle1 := hi.out.2.2
      have hle2 := HL.out
      have hwr : IntKind.i64.wrap ((P1.length : Int) - 1) = (n1 : Int) := by
        have e : (P1.length : Int) - 1 = ((n1 - 1 + 1 : Nat) : Int) ∨ True := .inr trivial
        have e2 : (P1.length : Int) - 1 = (n1 : Int) := by omega
        rw [e2]
        cases n1 with
        | zero => rfl
        | succ k => have := wrap_succ (n := k) (n1 := k + 1) rfl (by omega); push_cast at this ⊢; exact this
      have h3 := set_any (i := 2) (v := .int .i64 (n1 : Nat)) x'
      simp only [List.set_cons_zero, List.set_cons_succ] at h3
      have oth : ∀ r, r ≠ x → (W'.setCell ⟨x, 2, none⟩ (.int .i64 (n1 : Nat))).heap[r]? = W'.heap[r]? := fun r hr => Below.heap_setCell _ ⟨x, 2, none⟩ _ r hr
      have c2 : (W'.setCell ⟨x, 2, none⟩ (.int .i64 (n1 : Nat))).cell? ⟨y.na (p ++ [s]), 2, none⟩ = some (.pointer (some ⟨y.na p, 0, none⟩)) := cell_store (vs := [_, _, _, _, _]) (((oth _ hnx).trans cq').trans zq) rfl
      have hfin : PrI W0 x tmv num y B F p (outP P1 (p ++ [s])) (W'.setCell ⟨x, 2, none⟩ (.int .i64 (n1 : Nat))) := by
        refine ⟨⟨hTr'.keep (fun r hr => oth r (fun e => hT.xB (e ▸ hr))), fun r hr => ?_, by rw [hn1]; exact h3, hT.xB, fun r hr => ?_⟩, outP_mem.2 ⟨hp, fun e => by have := congrArg List.length e; simp at this⟩, fun r => ?_, ?_⟩
        · have h5 := hTd.blt r hr; have h6 := hg'.size; simp; omega
        · by_cases hr2 : r ∈ P1
          · have : r = p ++ [s] := Classical.not_not.1 fun hne => hr (outP_mem.2 ⟨hr2, hne⟩)
            rw [this]
            exact List.length_eq_zero_iff.1 (by omega)
          · exact hT.zer r hr2
        · rw [outP_mem, hi.out.1.mem]
          constructor
          · rintro ⟨h5 | h5, h6⟩
            · exact .inl h5
            · exact .inr (pre_snoc.1 ⟨h5, h6⟩)
          · rintro (h5 | h5)
            · exact ⟨.inl h5, fun e => hq (e ▸ h5)⟩
            · have := (pre_snoc (s := s)).2 h5; exact ⟨.inr this.1, this.2⟩
        · refine hi.out.1.only.trans (⟨hg'.os.trans bd.os, hg'.tape.trans bd.tape, hg'.output.trans bd.output, ?_, fun k hk hn => ?_⟩ : Only (x :: B) wr (W'.setCell ⟨x, 2, none⟩ (.int .i64 (n1 : Nat)))) (fun r hr => .inl hr)
          · have h5 := bd.size; have h6 := hg'.size; simp; omega
          · have hkx : k ≠ x := fun e => hn (by simp [e])
            have hkb : k ≠ b := fun e => hn (List.mem_cons_of_mem _ (e ▸ bB))
            exact ((oth k hkx).trans (hg'.block k (Nat.lt_of_lt_of_le hk bd.size) (fun e => hkb (Option.some.inj e)))).trans (bd.block k hk)
      have HFin : Hid (PrI W0 x tmv num y B F p (outP P1 (p ++ [s])) (W'.setCell ⟨x, 2, none⟩ (.int .i64 (n1 : Nat))) ∧ (∀ r ∈ outP P1 (p ++ [s]), ∀ s ∈ r, Sym.ok s) ∧ (outP P1 (p ++ [s])).length ≤ P.length) := ⟨hfin, fun r hr => hi.out.2.1 r (outP_mem.1 hr).1, by omega⟩
      have hmeas : boxN x (W'.setCell ⟨x, 2, none⟩ (.int .i64 (n1 : Nat))) < boxN x wr := by
        have e1 : (W'.setCell ⟨x, 2, none⟩ (.int .i64 (n1 : Nat))).cell? ⟨x, 2, none⟩ = some (.int .i64 (n1 : Nat)) := cell_store (vs := [_, _, _]) h3 rfl
        have e2 : wr.cell? ⟨x, 2, none⟩ = some (.int .i64 (P1.length : Nat)) := cell_store (vs := [_, _, _]) hT.box rfl
        unfold boxN
        rw [e1, e2]
        simp
        omega
      clear hfin hi hT hTd hTr' hcur hp hMp hM' hg' hsok hkl bd x' cq' zq hlo hle1 hle2 h3 oth hn1 xb xl hnq hnx bB hnd hd hb hq
      gi_wp2_with fail
      refine ⟨trivial, (callsIn_wide.2 hneed).mono ?_⟩
      rintro e w' ⟨rfl, hw'⟩
      rw [hw']
      clear hw' hneed
      gi_upto_region 1 with fail
      refine wpIn_region_any (by kernel_rfl) ?_
      try (change wpAnyIn _ _ _ _ _ _ _ _ _ (World.drew _))
      rw [hWd]
      refine wpAnyIn_take (i := 0) (v := .pointer (some ⟨y.na (p ++ [s]), 0, none⟩)) rfl rfl (by kernel_rfl) (by kernel_rfl) (by kernel_rfl) (fun _ _ _ h => h) ⟨Or.inl ⟨by rfl, fun Z => by go_simp⟩, fun _ => rfl⟩ ?_
      try simp only [Act.put, List.setIfInBounds_toArray]
      refine wpAnyIn_take (i := 1) (v := .pointer (some ⟨y.na (p ++ [s]), 0, none⟩)) rfl rfl (by kernel_rfl) (by kernel_rfl) (by kernel_rfl) (fun _ _ _ h => h) ⟨Or.inl ⟨by rfl, fun Z => by go_simp⟩, fun _ => rfl⟩ ?_
      try simp only [Act.put]
      refine wpAnyIn_take (i := 2) (v := .pointer (some ⟨y.na (p ++ [s]), 2, none⟩)) rfl rfl (by kernel_rfl) (by kernel_rfl) (by kernel_rfl) (fun _ _ _ h => h) ⟨Or.inl ⟨by rfl, fun Z => by go_simp⟩, fun _ => rfl⟩ ?_
      try simp only [Act.put]
      refine wpAnyIn_take (i := 7) (v := .pointer (some ⟨y.na (p ++ [s]), 0, none⟩)) rfl rfl (by kernel_rfl) (by kernel_rfl) (by kernel_rfl) (fun _ _ _ h => h) ⟨Or.inl ⟨by rfl, fun Z => by go_simp⟩, fun _ => rfl⟩ ?_
      try simp only [Act.put]
      refine wpAnyIn_take (i := 8) (v := .pointer (some ⟨y.na (p ++ [s]), 0, none⟩)) rfl rfl (by kernel_rfl) (by kernel_rfl) (by kernel_rfl) (fun _ _ _ h => h) ⟨Or.inl ⟨by rfl, fun Z => by go_simp⟩, fun _ => rfl⟩ ?_
      try simp only [Act.put]
      refine wpAnyIn_take (i := 9) (v := .pointer (some ⟨y.na (p ++ [s]), 0, none⟩)) rfl rfl (by kernel_rfl) (by kernel_rfl) (by kernel_rfl) (fun _ _ _ h => h) ⟨Or.inl ⟨by rfl, fun Z => by go_simp⟩, fun _ => rfl⟩ ?_
      try simp only [Act.put]
      refine wpAnyIn_ready (rs := [3, 10]) (by kernel_rfl) (by simp) ?_
      refine AllReadyIn.cons rfl (fun K hK => ?_) ?_
      · go_simp
        refine hK _ _ ?_
        clear hK K
        try simp only [Act.put, List.setIfInBounds_toArray, List.set_cons_zero, List.set_cons_succ]
        refine wpAnyIn_take (i := 4) (v := .pointer (some ⟨y.na p, 0, none⟩)) rfl rfl (by kernel_rfl) (by kernel_rfl) (by kernel_rfl) (fun _ _ _ h => h) ⟨Or.inl ⟨by rfl, fun Z => by go_simp⟩, fun _ => rfl⟩ ?_
        try simp only [Act.put, List.setIfInBounds_toArray]
        refine wpAnyIn_take (i := 5) (v := .pointer (some ⟨y.na p, 3, none⟩)) rfl rfl (by kernel_rfl) (by kernel_rfl) (by kernel_rfl) (fun _ _ _ h => h) ⟨Or.inl ⟨by rfl, fun Z => by go_simp⟩, fun _ => rfl⟩ ?_
        try simp only [Act.put]
        refine wpAnyIn_ready (rs := [6, 10]) (by kernel_rfl) (by simp) ?_
        refine AllReadyIn.cons rfl (fun K hK => ?_) ?_
        · go_simp
          refine hK _ _ ?_
          clear hK K
          try simp only [Act.put, List.setIfInBounds_toArray, List.set_cons_zero, List.set_cons_succ]
          refine wpAnyIn_ready (rs := [10]) (by kernel_rfl) (by simp) ?_
          refine AllReadyIn.cons rfl (fun K hK => ?_) AllReadyIn.nil
          go_simp
          refine hK _ _ ?_
          clear hK K
          try simp only [Act.put, List.setIfInBounds_toArray, List.set_cons_zero, List.set_cons_succ]
          refine wpAnyIn_ready (rs := [11]) (by kernel_rfl) (by simp) ?_
          refine AllReadyIn.cons rfl (fun K hK => ?_) AllReadyIn.nil
          go_simp
          refine hK _ _ ?_
          clear hK K
          try simp only [Act.put, List.setIfInBounds_toArray, List.set_cons_zero, List.set_cons_succ]
          refine wpAnyIn_done (by kernel_rfl) ?_ _
          gi_wp2
          go_roundw
          case rel => exact ⟨p, _, rfl, HFin⟩
          case measure => exact hmeas
        refine AllReadyIn.cons rfl (fun K hK => ?_) AllReadyIn.nil
        go_simp
        refine hK _ _ ?_
        clear hK K
        try simp only [Act.put, List.setIfInBounds_toArray, List.set_cons_zero, List.set_cons_succ]
        refine wpAnyIn_ready (rs := [6]) (by kernel_rfl) (by simp) ?_
        refine AllReadyIn.cons rfl (fun K hK => ?_) AllReadyIn.nil
        go_simp
        refine hK _ _ ?_
        clear hK K
        try simp only [Act.put, List.setIfInBounds_toArray, List.set_cons_zero, List.set_cons_succ]
        refine wpAnyIn_ready (rs := [11]) (by kernel_rfl) (by simp) ?_
        refine AllReadyIn.cons rfl (fun K hK => ?_) AllReadyIn.nil
        go_simp
        refine hK _ _ ?_
        clear hK K
        try simp only [Act.put, List.setIfInBounds_toArray, List.set_cons_zero, List.set_cons_succ]
        refine wpAnyIn_done (by kernel_rfl) ?_ _
        gi_wp2
        go_roundw
        case rel => exact ⟨p, _, rfl, HFin⟩
        case measure => exact hmeas
      refine AllReadyIn.cons rfl (fun K hK => ?_) AllReadyIn.nil
      go_simp
      refine hK _ _ ?_
      clear hK K
      try simp only [Act.put, List.setIfInBounds_toArray, List.set_cons_zero, List.set_cons_succ]
      refine wpAnyIn_ready (rs := [3]) (by kernel_rfl) (by simp) ?_
      refine AllReadyIn.cons rfl (fun K hK => ?_) AllReadyIn.nil
      go_simp
      refine hK _ _ ?_
      clear hK K
      try simp only [Act.put, List.setIfInBounds_toArray, List.set_cons_zero, List.set_cons_succ]
      refine wpAnyIn_take (i := 4) (v := .pointer (some ⟨y.na p, 0, none⟩)) rfl rfl (by kernel_rfl) (by kernel_rfl) (by kernel_rfl) (fun _ _ _ h => h) ⟨Or.inl ⟨by rfl, fun Z => by go_simp⟩, fun _ => rfl⟩ ?_
      try simp only [Act.put, List.setIfInBounds_toArray]
      refine wpAnyIn_take (i := 5) (v := .pointer (some ⟨y.na p, 3, none⟩)) rfl rfl (by kernel_rfl) (by kernel_rfl) (by kernel_rfl) (fun _ _ _ h => h) ⟨Or.inl ⟨by rfl, fun Z => by go_simp⟩, fun _ => rfl⟩ ?_
      try simp only [Act.put]
      refine wpAnyIn_ready (rs := [6]) (by kernel_rfl) (by simp) ?_
      refine AllReadyIn.cons rfl (fun K hK => ?_) AllReadyIn.nil
      go_simp
      refine hK _ _ ?_
      clear hK K
      try simp only [Act.put, List.setIfInBounds_toArray, List.set_cons_zero, List.set_cons_succ]
      refine wpAnyIn_ready (rs := [11]) (by kernel_rfl) (by simp) ?_
      refine AllReadyIn.cons rfl (fun K hK => ?_) AllReadyIn.nil
      go_simp
      refine hK _ _ ?_
      clear hK K
      try simp only [Act.put, List.setIfInBounds_toArray, List.set_cons_zero, List.set_cons_succ]
      refine wpAnyIn_done (by kernel_rfl) ?_ _
      gi_wp2
      go_roundw
      case rel => exact ⟨p, _, rfl, HFin⟩
      case measure => exact hmeas

end Go.Proofs.Ytijihmncbaoklaa
