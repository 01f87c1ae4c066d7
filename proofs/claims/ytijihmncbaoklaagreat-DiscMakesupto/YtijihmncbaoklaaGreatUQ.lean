import Derived.Test.YtijihmncbaoklaaGreatUB
import Derived.Test.YtijihmncbaoklaaGreatUC
import Derived.Sort.CutIn

/-
  Routes: how far what is behind a part lies: plain mathematics; a route in memory.
-/
namespace Go.Proofs.YtijihmncbaoklaaGreat

theorem flat_drop (l : List T) (ih : ∀ a ∈ l, ∀ i (h : i < a.pre.length), ∃ rest, a.pre.drop i = (a.pre[i]).pre ++ rest) : ∀ i (h : i < (l.flatMap T.pre).length), ∃ rest, (l.flatMap T.pre).drop i = ((l.flatMap T.pre)[i]).pre ++ rest := by
  induction l with
  | nil => intro i h; simp at h
  | cons a r ihr =>
    intro i h
    by_cases hi : i < a.pre.length
    · obtain ⟨rest, hr⟩ := ih a (by simp) i hi
      refine ⟨rest ++ r.flatMap T.pre, ?_⟩
      simp only [List.flatMap_cons]
      rw [List.getElem_append_left hi, List.drop_append_of_le_length (by omega), hr, List.append_assoc]
    · have hlen : i - a.pre.length < (r.flatMap T.pre).length := by
        rw [List.flatMap_cons, List.length_append] at h
        omega
      obtain ⟨rest, hr⟩ := ihr (fun b hb => ih b (by simp [hb])) (i - a.pre.length) hlen
      refine ⟨rest, ?_⟩
      simp only [List.flatMap_cons]
      rw [List.getElem_append_right (by omega), List.drop_append, List.drop_of_length_le (by omega), List.nil_append, hr]

/-- Where a part stands its own parts begin. -/
theorem pre_drop (t : T) : ∀ i (h : i < t.pre.length), ∃ rest, t.pre.drop i = (t.pre[i]).pre ++ rest := by
  induction t using T.ind with
  | _ t ih =>
    intro i h
    have e := t.pre_eq
    cases i with
    | zero => exact ⟨[], by rw [List.drop_zero, List.append_nil]; simp only [e, List.getElem_cons_zero]⟩
    | succ i =>
      have h' : i < (t.args.flatMap T.pre).length := by rw [e, List.length_cons] at h; omega
      obtain ⟨rest, hr⟩ := flat_drop t.args ih i h'
      refine ⟨rest, ?_⟩
      simp only [e, List.getElem_cons_succ, List.drop_succ_cons]
      exact hr

/-- Behind so many arguments of a part. -/
theorem args_drop {L : List T} {i : Nat} {p : T} {rest : List T} (h : L.drop i = p.pre ++ rest) : ∀ j, j ≤ p.args.length → L.drop (i + 1 + fsize (p.args.take j)) = (p.args.drop j).flatMap T.pre ++ rest := by
  intro j
  induction j with
  | zero =>
    intro _
    rw [List.take_zero, fsize_nil, Nat.add_zero, ← List.drop_drop, h, T.pre_eq]
    simp
  | succ j ih =>
    intro hj
    have hj' : j < p.args.length := by omega
    have e1 : fsize (p.args.take (j + 1)) = fsize (p.args.take j) + (p.args[j]).pre.length := by
      rw [List.take_succ_eq_append_getElem hj']
      unfold fsize
      rw [List.flatMap_append, List.length_append]
      simp
    rw [e1, ← Nat.add_assoc, ← List.drop_drop, ih (by omega), List.drop_eq_getElem_cons hj', List.flatMap_cons, List.append_assoc, List.drop_left]

theorem fsize_take {p : T} {j : Nat} (hj : j < p.args.length) : fsize (p.args.take (j + 1)) = fsize (p.args.take j) + (p.args[j]).pre.length := by
  rw [List.take_succ_eq_append_getElem hj]
  unfold fsize
  rw [List.flatMap_append, List.length_append]
  simp

theorem fsize_all (p : T) : p.pre.length = 1 + fsize p.args := by
  rw [T.pre_eq, List.length_cons]
  unfold fsize
  omega

/-- Where an argument of a part stands. -/
theorem args_at {L : List T} {i : Nat} {p : T} {rest : List T} (h : L.drop i = p.pre ++ rest) {j : Nat} (hj : j < p.args.length) : ∃ hl : i + 1 + fsize (p.args.take j) < L.length, L[i + 1 + fsize (p.args.take j)] = p.args[j] := by
  have h1 := args_drop h j (by omega)
  rw [List.drop_eq_getElem_cons hj, List.flatMap_cons, T.pre_eq] at h1
  have h2 : (L.drop (i + 1 + fsize (p.args.take j)))[0]? = some p.args[j] := by rw [h1]; rfl
  rw [List.getElem?_drop, Nat.add_zero] at h2
  obtain ⟨hl, he⟩ := List.getElem?_eq_some_iff.1 h2
  exact ⟨hl, he⟩

/-- What is left of a term, from a place of its route on. -/
def Left (L : List T) (at' : Nat) (l : List T) : Prop := L.drop at' = l.flatMap T.pre ∧ at' ≤ L.length
theorem Left.start (t : T) : Left t.pre 0 [t] := ⟨by simp, Nat.zero_le _⟩
theorem Left.fin {L : List T} {n : Nat} (h : Left L n []) : n = L.length := by
  have h1 := congrArg List.length h.1
  have := h.2
  simp only [List.length_drop, List.flatMap_nil, List.length_nil] at h1
  omega
theorem Left.lt {L : List T} {n : Nat} {t : T} {r : List T} (h : Left L n (t :: r)) : ∃ hn : n < L.length, L[n] = t := by
  have h1 := h.1
  rw [List.flatMap_cons, T.pre_eq] at h1
  have h2 : (L.drop n)[0]? = some t := by rw [h1]; rfl
  rw [List.getElem?_drop, Nat.add_zero] at h2
  obtain ⟨hl, he⟩ := List.getElem?_eq_some_iff.1 h2
  exact ⟨hl, he⟩
theorem Left.next {L : List T} {n : Nat} {t : T} {r : List T} (h : Left L n (t :: r)) : Left L (n + 1) (t.args ++ r) := by
  obtain ⟨hn, _⟩ := h.lt
  refine ⟨?_, hn⟩
  rw [← List.drop_drop, h.1, List.flatMap_cons, T.pre_eq, List.flatMap_append]
  simp
theorem Left.skip {L : List T} {n : Nat} {t : T} {r : List T} (h : Left L n (t :: r)) : Left L (n + t.pre.length) r := by
  have h1 := congrArg List.length h.1
  have := h.2
  rw [List.length_drop, List.flatMap_cons, List.length_append] at h1
  refine ⟨?_, by omega⟩
  rw [← List.drop_drop, h.1, List.flatMap_cons, List.drop_left]

/-- A route in memory. -/
def RouteAt (W : World) (g : Nat) (L : List T) : Prop :=
  g < W.heap.size ∧ ∀ i (h : i < L.length), W.cell? ⟨g, i * 3, none⟩ = some (.string L[i].fn) ∧ W.cell? ⟨g, i * 3 + 1, none⟩ = some (.int .i64 (L[i].args.length : Nat)) ∧ W.cell? ⟨g, i * 3 + 2, none⟩ = some (.int .i64 ((i + L[i].pre.length : Nat) : Int))

theorem RouteAt.keep {W W' : World} {g : Nat} {L : List T} (h : RouteAt W g L) (hs : W.heap.size ≤ W'.heap.size) (hb : W'.heap[g]? = W.heap[g]?) : RouteAt W' g L := by
  refine ⟨Nat.lt_of_lt_of_le h.1 hs, fun i hi => ?_⟩
  obtain ⟨a, b, c⟩ := h.2 i hi
  exact ⟨(World.cell?_of_block (a := ⟨g, _, none⟩) hb).trans a, (World.cell?_of_block (a := ⟨g, _, none⟩) hb).trans b, (World.cell?_of_block (a := ⟨g, _, none⟩) hb).trans c⟩

end Go.Proofs.YtijihmncbaoklaaGreat

/-
  isStar.
-/
namespace Go.Proofs.YtijihmncbaoklaaGreat
open Go.RowKit Go.Maps

theorem ba_emp {s : ByteArray} (h : s.size = 0) : s = ⟨#[]⟩ := by
  cases s with
  | mk d =>
    have : d.size = 0 := h
    rw [Array.size_eq_zero_iff] at this
    rw [this]

set_option maxRecDepth 100000 in
set_option maxHeartbeats 2000000 in
theorem isStar_any (s : Sym) (w : World) : Calls Tryz.prog 59 #[symv s] w fun e w' => e = .returned (.bool (decide (s = star))) ∧ Below w.heap.size w w' := by
  have z : (w.alloc (.cells #[.string s.1, .int .i64 (s.2 : Nat)] 75)).heap[w.heap.size]? = some (.cells #[.string s.1, .int .i64 (s.2 : Nat)] 75 (0, 0)) := (MapKept.heap_alloc _ _).1
  have c0 := cell_store (vs := [_, _]) (i := 0) z rfl
  have c1 := cell_store (vs := [_, _]) (i := 1) z rfl
  go_enter Tryz.func59, Tryz.ntmps59
  have hk : ∀ b : Bool, b = (decide (s.1.toList = []) && decide (s.2 = 0)) → decide (s = star) = b := fun b hb => by
    rw [hb, Bool.eq_iff_iff]
    simp only [Bool.and_eq_true, decide_eq_true_eq]
    constructor
    · rintro rfl; exact ⟨by rw [ByteArray.toList_eq]; rfl, rfl⟩
    · rintro ⟨h1, h2⟩
      obtain ⟨a, n⟩ := s
      have h3 : a.size = 0 := by
        have := congrArg List.length h1
        rw [ByteArray.toList_eq] at this
        exact this
      rw [ba_emp h3, show n = 0 from h2]
      rfl
  go_wp2 <;> (go_ret; refine ⟨?_, below_box _ _⟩; rw [hk _ rfl]; simp [*])

end Go.Proofs.YtijihmncbaoklaaGreat

/-
  generalEnds: what its closure walks over; a node that is not there; a route's end.
-/
namespace Go.Proofs.YtijihmncbaoklaaGreat
open Go.RowKit Go.Maps Go.Shelf

attribute [local go_sem] Oper.semAt_some

open Classical in
noncomputable def nodeV (P : List Path) (na : Path → Nat) (p : Path) : Value := if p ∈ P then .pointer (some ⟨na p, 0, none⟩) else .pointer none
theorem nodeV_yes {P : List Path} {na : Path → Nat} {p : Path} (h : p ∈ P) : nodeV P na p = .pointer (some ⟨na p, 0, none⟩) := by unfold nodeV; rw [if_pos h]
theorem nodeV_no {P : List Path} {na : Path → Nat} {p : Path} (h : p ∉ P) : nodeV P na p = .pointer none := by unfold nodeV; rw [if_neg h]

/-- A node's child. -/
theorem child_look {W : World} {P : List Path} {num : Path → List Int} {y : Lay} {B : List Nat} (h : Trie W P num y B) {p : Path} (hp : p ∈ P) {s : Sym} (hs : Sym.ok s) :
    (Instr.lookup 76 (.map (y.ca p)) (symv s) false).run Tryz.prog W = .ok (nodeV P y.na (p ++ [s])) W := by
  obtain ⟨kl, hkl⟩ := sym_key hs
  have hk := h.kid p hp
  cases hc : y.ca p with
  | none =>
    rw [hc] at hk
    rw [nodeV_no (kidN_zero.1 hk s)]
    exact nil_look _ kl hkl W
  | some b =>
    rw [hc] at hk
    have hM : MapIs W 75 b (kidM P y.na p) (kidN P p) := hk
    by_cases hq : p ++ [s] ∈ P
    · rw [nodeV_yes hq]
      exact ((hM.look keyed55 Tryz.underlying76 (zero42 W) hkl).1 _ (kidM_some hq)).2
    · rw [nodeV_no hq]
      exact ((hM.look keyed55 Tryz.underlying76 (zero42 W) hkl).2 (kidM_none hq)).2

/-- What is read, and stays. -/
structure GeS (D : Nat → Prop) (w0 : World) (P : List Path) (num : Path → List Int) (y : Lay) (B : List Nat) (Rb g rc : Nat) (L : List T) : Prop where
  tri : Trie w0 P num y B
  inB : ∀ r ∈ B, D r
  inR : D Rb
  inG : D g
  box : w0.heap[Rb]? = some (.cells #[.slice (some ⟨g, 0, none⟩) L.length rc] 89 (0, 0))
  rou : RouteAt w0 g L
  oks : ∀ t ∈ L, Sym.ok t.sym
  len : L.length ≤ 1000000 ∧ L.length ≤ rc

/-- What lies in the iterator's blocks. -/
structure ItG (D : Nat → Prop) (w0 : World) (l Rb Y Kb : Nat) (E : List Nat) (W : World) : Prop where
  y : Boxed W Y 117 (.func (.yield l) #[] #[])
  k : Boxed W Kb 118 (.func (.func 58) #[] #[.pointer (some ⟨Rb, 0, none⟩), .pointer (some ⟨Y, 0, none⟩), .pointer (some ⟨Kb, 0, none⟩)])
  my : Y ∈ E
  mb : Kb ∈ E
  same : SameD D w0 W
  dlt : ∀ b, D b → b < W.heap.size
  elt : ∀ r ∈ E, r < W.heap.size

section
variable {D : Nat → Prop} {w0 : World} {l Rb Y Kb : Nat} {E : List Nat} {W W' : World}
theorem ItG.kept (h : ItG D w0 l Rb Y Kb E W) (hk : KeptD D E W W') : ItG D w0 l Rb Y Kb E W' :=
  ⟨(hk.mine Y h.my).trans h.y, (hk.mine Kb h.mb).trans h.k, h.my, h.mb, h.same.next hk.keep, fun b hb => Nat.lt_of_lt_of_le (h.dlt b hb) hk.size, fun r hr => Nat.lt_of_lt_of_le (h.elt r hr) hk.size⟩
theorem ItG.below (h : ItG D w0 l Rb Y Kb E W) (hb : Below W.heap.size W W') : KeptD D E W W' :=
  ⟨hb.size, fun b hd => hb.block b (h.dlt b hd), fun r hr => hb.block r (h.elt r hr)⟩
theorem ItG.more (h : ItG D w0 l Rb Y Kb E W) {r : Nat} (hr : r < W.heap.size) : ItG D w0 l Rb Y Kb (r :: E) W :=
  ⟨h.y, h.k, List.mem_cons_of_mem _ h.my, List.mem_cons_of_mem _ h.mb, h.same, h.dlt, fun x hx => by rcases List.mem_cons.1 hx with rfl | hx; exact hr; exact h.elt x hx⟩
end
theorem KeptD.less {D : Nat → Prop} {E E' : List Nat} {W W' : World} (h : KeptD D E W W') (hE : ∀ r ∈ E', r ∈ E) : KeptD D E' W W' := ⟨h.size, h.keep, fun r hr => h.mine r (hE r hr)⟩

abbrev pvn (na : Path → Nat) (p : Path) (_ : Unit) : Array Value := #[.pointer (some ⟨na p, 0, none⟩)]

/-- What the closure does, for what is left of a term. -/
def WalkG (D : Nat → Prop) (w0 : World) (P : List Path) (na : Path → Nat) (l Rb Y Kb : Nat) (L : List T) (all : List Path) (J Jx : List Nat → List Path → World → Prop) (r : List T) : Prop :=
  ∀ (m : Nat) (p : Path) (n : Nat) (W : World) (E : List Nat) (pre : List Path), ItG D w0 l Rb Y Kb E W → J E pre W → Left L n r → (∃ rest, pre ++ ends (· ∈ P) p r ++ rest = all) →
    CallsIn Fence.wide m Tryz.prog 58 #[nodeV P na p, .int .i64 n, .pointer (some ⟨Rb, 0, none⟩), .pointer (some ⟨Y, 0, none⟩), .pointer (some ⟨Kb, 0, none⟩)] W fun e W' =>
      (e = .returned (.bool true) ∧ ∃ E', ItG D w0 l Rb Y Kb E' W' ∧ J E' (pre ++ ends (· ∈ P) p r) W' ∧ (∀ x ∈ E, x ∈ E') ∧ KeptD D E W W') ∨ (e = .returned (.bool false) ∧ ∃ E' pre', Jx E' pre' W')

set_option maxRecDepth 100000 in
set_option maxHeartbeats 2000000 in
theorem walkg_no {D : Nat → Prop} {w0 : World} {P : List Path} {na : Path → Nat} {l Rb Y Kb : Nat} {J Jx : List Nat → List Path → World → Prop} (r : List T) (m : Nat) (p : Path) (n : Nat) (W : World) (E : List Nat) (pre : List Path) (hS : ItG D w0 l Rb Y Kb E W) (hj : J E pre W) (hp : p ∉ P) :
    CallsIn Fence.wide m Tryz.prog 58 #[nodeV P na p, .int .i64 n, .pointer (some ⟨Rb, 0, none⟩), .pointer (some ⟨Y, 0, none⟩), .pointer (some ⟨Kb, 0, none⟩)] W fun e W' =>
      (e = .returned (.bool true) ∧ ∃ E', ItG D w0 l Rb Y Kb E' W' ∧ J E' (pre ++ ends (· ∈ P) p r) W' ∧ (∀ x ∈ E, x ∈ E') ∧ KeptD D E W W') ∨ (e = .returned (.bool false) ∧ ∃ E' pre', Jx E' pre' W') := by
  rw [nodeV_no hp]
  refine callsIn_of_wp Tryz.func58 rfl trivial ?_ rfl
  simp only [Tryz.ntmps58, List.size_toArray, List.length_cons, List.length_nil, Nat.reduceAdd, Nat.reduceSub, Array.replicate_succ, Array.replicate_zero, List.push_toArray, List.append_toArray, List.nil_append, List.cons_append]
  gi_wp2
  go_ret
  exact .inl ⟨rfl, E, hS, by rw [ends_no hp, List.append_nil]; exact hj, fun _ h => h, KeptD.refl _ _ _⟩

set_option maxRecDepth 100000 in
set_option maxHeartbeats 2000000 in
theorem walkg_end {D : Nat → Prop} {w0 : World} {P : List Path} {num : Path → List Int} {y : Lay} {B : List Nat} {l Rb Y Kb g rc : Nat} {L : List T} {all : List Path} {J Jx : List Nat → List Path → World → Prop} (hG : GeS D w0 P num y B Rb g rc L) (hY : YieldsG (pvn y.na) (fun p _ => p ∈ P) l D w0 all J Jx) :
    WalkG D w0 P y.na l Rb Y Kb L all J Jx [] := by
  intro m p n W E pre hS hj hL hrest
  by_cases hp : p ∈ P
  · have hn := hL.fin
    subst hn
    obtain ⟨rest, hrest⟩ := hrest
    rw [ends_nil_yes hp] at hrest
    have hy := hY E pre p () W hj hS.same hp ⟨rest, by rw [← hrest]; simp⟩ (m - 1)
    have cy := hS.y.cell
    have cr : W.cell? ⟨Rb, 0, none⟩ = some (.slice (some ⟨g, 0, none⟩) L.length rc) := cell_store (vs := [_]) ((hS.same Rb hG.inR).trans hG.box) rfl
    have hlr := hG.len
    obtain ⟨fn, tmps, assign, body, hyr, hR⟩ := hy
    rw [nodeV_yes hp]
    have HH : Hid (ItG D w0 l Rb Y Kb E W ∧ p ∈ P) := ⟨hS, hp⟩
    clear hS hj hG hY hp hrest
    refine callsIn_of_wp Tryz.func58 rfl trivial ?_ rfl
    simp only [Tryz.ntmps58, List.size_toArray, List.length_cons, List.length_nil, Nat.reduceAdd, Nat.reduceSub, Array.replicate_succ, Array.replicate_zero, List.push_toArray, List.append_toArray, List.nil_append, List.cons_append]
    gi_wp2_with fail
    refine ⟨fun h => (by cases h), ?_⟩
    refine hR.mono ?_
    clear hR
    rintro e W2 (⟨rfl, hj2, hk2⟩ | ⟨rfl, hx⟩)
    · gi_wp2
      go_ret
      exact .inl ⟨rfl, E, HH.out.1.kept hk2, by rw [ends_nil_yes HH.out.2]; exact hj2, fun _ h => h, hk2⟩
    · gi_wp2
      go_ret
      exact .inr ⟨rfl, _, _, hx⟩
  · exact walkg_no [] m p n W E pre hS hj hp

end Go.Proofs.YtijihmncbaoklaaGreat
