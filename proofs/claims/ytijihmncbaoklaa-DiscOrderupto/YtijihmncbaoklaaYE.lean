import Derived.Test.YtijihmncbaoklaaXF
import Derived.Test.YtijihmncbaoklaaVK
import Derived.Test.YtijihmncbaoklaaTE

/-
  A tree, with terms or without; each call on it.
-/
namespace Go.Proofs.Ytijihmncbaoklaa
open Go.RowKit Go.Maps

def keyT (e : Kpt) : Int × T := (e.1, e.2.1)

/-- A tree: which terms it keeps, in which blocks. -/
def Tst (W : World) (x : Nat) (es : List Kpt) (K : List Nat) : Prop :=
  (es = [] ∧ Emp W x ∧ K = []) ∨ (es ≠ [] ∧ ∃ P y B M, Dsc W x es P y B M ∧ K = M :: B)

theorem Tst.keep {W W' : World} {x : Nat} {es : List Kpt} {K : List Nat} (h : Tst W x es K) (hb : Below W.heap.size W W') : Tst W' x es K := by
  rcases h with ⟨h1, h2, h3⟩ | ⟨h1, P, y, B, M, h2, h3⟩
  · exact .inl ⟨h1, (hb.block x (Array.getElem?_eq_some_iff.1 h2).1).trans h2, h3⟩
  · exact .inr ⟨h1, P, y, B, M, h2.keep hb, h3⟩

theorem Tst.lt {W : World} {x : Nat} {es : List Kpt} {K : List Nat} (h : Tst W x es K) : ∀ r ∈ x :: K, r < W.heap.size := by
  intro r hr
  rcases h with ⟨_, h2, rfl⟩ | ⟨_, P, y, B, M, h2, rfl⟩
  · rw [List.mem_singleton.1 hr]; exact (Array.getElem?_eq_some_iff.1 h2).1
  · rcases List.mem_cons.1 hr with rfl | hr
    · exact (Array.getElem?_eq_some_iff.1 h2.tre.box).1
    · rcases List.mem_cons.1 hr with rfl | hr
      · exact h2.mp.lt
      · exact h2.tre.blt r hr

theorem Tst.args {W : World} {x : Nat} {es : List Kpt} {K : List Nat} (h : Tst W x es K) : ∀ e ∈ es, ArgsP (fun b => b ∉ x :: K) W e.2.2 e.2.1.args := by
  rcases h with ⟨h1, _, _⟩ | ⟨_, P, y, B, M, h2, rfl⟩
  · rw [h1]; intro e he; cases he
  · exact h2.ags

theorem Tst.ids {W : World} {x : Nat} {es : List Kpt} {K : List Nat} (h : Tst W x es K) : (es.map (·.1)).Nodup := by
  rcases h with ⟨h1, _, _⟩ | ⟨_, P, y, B, M, h2, rfl⟩
  · rw [h1]; simp
  · exact h2.ids

theorem args_both {P Q : Nat → Prop} {W : World} {sl : Value} {l : List T} (h : ArgsP P W sl l) : ArgsP Q W sl l → ArgsP (fun b => P b ∧ Q b) W sl l := by
  induction h with
  | mk a c l s hc hm at0 sub ih =>
    intro h2
    generalize hv : Value.slice a l.length c = v at h2
    cases h2 with
    | mk a2 c2 _ s2 hc2 hm2 at2 sub2 =>
      simp only [Value.slice.injEq, true_and] at hv
      obtain ⟨rfl, rfl⟩ := hv
      refine .mk a c l s hc hm (fun h0 => ?_) (fun i hi => ih i hi ?_)
      · obtain ⟨b, o, hb, hlt, rfl, hcell⟩ := at0 h0
        obtain ⟨b', o', hb', hlt', he, _⟩ := at2 h0
        cases he
        exact ⟨b, o, ⟨hb, hb'⟩, hlt, rfl, hcell⟩
      · obtain ⟨b, o, hb, hlt, rfl, hcell⟩ := at0 (by omega)
        obtain ⟨b', o', hb', hlt', he, hcell'⟩ := at2 (by omega)
        cases he
        have e1 := (hcell i hi).2.2
        have e2 := (hcell' i hi).2.2
        rw [e1] at e2
        rw [Option.some.inj e2]
        exact sub2 i hi

/-- Another tree's blocks, and what it keeps, stay. -/
theorem Tst.other {W W' : World} {x : Nat} {es : List Kpt} {K L : List Nat} (h : Tst W x es K) (hO : Only L W W') (hd : ∀ r ∈ x :: K, r ∉ L) (ha : ∀ e ∈ es, ArgsP (fun b => b ∉ L) W e.2.2 e.2.1.args) : Tst W' x es K := by
  have hlt := h.lt
  have blk : ∀ r ∈ x :: K, W'.heap[r]? = W.heap[r]? := fun r hr => hO.block r (hlt r hr) (hd r hr)
  have hags := h.args
  rcases h with ⟨h1, h2, h3⟩ | ⟨h1, P, y, B, M, h2, rfl⟩
  · exact .inl ⟨h1, (blk x (by simp)).trans h2, h3⟩
  · refine .inr ⟨h1, P, y, B, M, { h2 with tre := ⟨h2.tre.tri.keep (fun r hr => blk r (by simp [hr])), fun r hr => Nat.lt_of_lt_of_le (h2.tre.blt r hr) hO.size, (blk x (by simp)).trans h2.tre.box, h2.tre.xB, h2.tre.zer⟩, mp := h2.mp.same (blk M (by simp)), ags := fun e he => ?_ }, rfl⟩
    have h3 := args_both (hags e he) (ha e he)
    exact h3.keep hO.size (fun k hk hl => ⟨hk.1, hO.block k hl hk.2⟩)

/-- What a call leaves of a tree. -/
structure OpP (x : Nat) (es : List Kpt) (K : List Nat) (W : World) (es' : List Kpt) (K' : List Nat) (W' : World) : Prop where
  st : Tst W' x es' K'
  only : Only (x :: K) W W'
  blk : ∀ r ∈ K', r ∈ K ∨ W.heap.size ≤ r
  ags : ∀ e ∈ es', e ∈ es ∨ ArgsP (fun k => W.heap.size ≤ k) W' e.2.2 e.2.1.args

theorem OpP.same {x : Nat} {es : List Kpt} {K : List Nat} {W W' : World} (h : Tst W x es K) (hb : Below W.heap.size W W') : OpP x es K W es K W' :=
  ⟨h.keep hb, Only.of_below hb, fun _ hr => .inl hr, fun _ he => .inl he⟩

/-- Insert of a term that is not right. -/
theorem insert_bad {x : Nat} (t : T) (sl : Value) (id : Int) (W : World) (ha : ArgsAt W sl t.args) (hr : t.rightW ≠ 0) (hsz : t.size ≤ 1048576) :
    Calls Try.prog 7 #[.pointer (some ⟨x, 0, none⟩), .int .i64 id, tval t sl] W fun e W' => (∃ v, e = .returned (.int .i64 v)) ∧ Below W.heap.size W W' := by
  obtain ⟨a, c, rfl, _, _⟩ := ha.slice
  have hb := below_box W (tbox t (.slice a t.args.length c))
  obtain ⟨t0, t1, t2⟩ := tbox_cells W t (.slice a t.args.length c)
  have hrt := right_at t (.slice a t.args.length c) W (W.alloc (tbox t (.slice a t.args.length c))) hb ha hsz
  have hr' : (t.rightW != 0) = true := by rw [bne_iff_ne]; exact hr
  have HB := hid hb
  clear ha hb
  go_enter Try.func7, Try.ntmps7
  go_wp2_with fail
  refine hrt.mono ?_
  rintro e W2 ⟨rfl, hb2⟩
  clear hrt
  go_wp2
  go_ret
  exact ⟨⟨_, rfl⟩, HB.out.trans (hb2.mono HB.out.size)⟩

open Classical in
noncomputable def addT (A : List (Int × T)) (id : Int) (t : T) : List (Int × T) := if t.rightW = 0 then A ++ [(id, t)] else A

theorem tins {W : World} {x : Nat} {es : List Kpt} {K : List Nat} (h : Tst W x es K) (hl : es.length ≤ 200) (t : T) (sl : Value) (id : Int) (ha : ArgsAt W sl t.args) (hsz : t.size ≤ 1048576) (hfit : Fit64 id) (hno : ∀ e ∈ es, e.1 ≠ id) :
    Calls Try.prog 7 #[.pointer (some ⟨x, 0, none⟩), .int .i64 id, tval t sl] W fun e W' => (∃ v, e = .returned (.int .i64 v)) ∧ ∃ es' K', OpP x es K W es' K' W' ∧ es'.map keyT = addT (es.map keyT) id t := by
  by_cases hr : t.rightW = 0
  · have hA : addT (es.map keyT) id t = es.map keyT ++ [(id, t)] := if_pos hr
    rw [hA]
    have fin : ∀ W', InsP x es K id t W W' → ∃ es' K', OpP x es K W es' K' W' ∧ es'.map keyT = es.map keyT ++ [(id, t)] := by
      rintro W' ⟨s, P, y, B, M, h1, h2, h3, h4⟩
      refine ⟨_, M :: B, ⟨.inr ⟨by simp, P, y, B, M, h1, rfl⟩, h2, h3, fun e he => ?_⟩, by simp [keyT]⟩
      rcases List.mem_append.1 he with he | he
      · exact .inl he
      · rw [List.mem_singleton.1 he]; exact .inr h4
    rcases h with ⟨rfl, h1, rfl⟩ | ⟨_, P, y, B, M, h1, rfl⟩
    · refine (insert_emp h1 t sl id ha hr hsz hfit).mono ?_
      rintro e W' ⟨rfl, h2⟩
      exact ⟨⟨_, rfl⟩, fin W' h2⟩
    · refine (insert_dsc h1 hl t sl id ha hr hsz hfit hno).mono ?_
      rintro e W' ⟨rfl, h2⟩
      exact ⟨⟨_, rfl⟩, fin W' h2⟩
  · have hA : addT (es.map keyT) id t = es.map keyT := if_neg hr
    rw [hA]
    refine (insert_bad t sl id W ha hr hsz).mono ?_
    rintro e W' ⟨hv, hb⟩
    exact ⟨hv, es, K, OpP.same h hb, rfl⟩

def delT (A : List (Int × T)) (id : Int) : List (Int × T) := A.filter fun e => decide (e.1 ≠ id)
theorem remE_key (es : List Kpt) (id : Int) : (remE es id).map keyT = delT (es.map keyT) id := by
  unfold remE delT
  rw [List.filter_map]
  rfl

theorem trem {W : World} {x : Nat} {es : List Kpt} {K : List Nat} (h : Tst W x es K) (hl : es.length ≤ 200) (id : Int) (hfit : Fit64 id) :
    Calls Try.prog 8 #[.pointer (some ⟨x, 0, none⟩), .int .i64 id] W fun e W' => (∃ v, e = .returned (.int .i64 v)) ∧ ∃ es' K', OpP x es K W es' K' W' ∧ es'.map keyT = delT (es.map keyT) id := by
  have hT := h
  rcases h with ⟨rfl, h1, rfl⟩ | ⟨hne, P, y, B, M, h1, rfl⟩
  · refine (remove_emp h1 id hfit).mono ?_
    rintro e W' ⟨rfl, hb⟩
    exact ⟨⟨_, rfl⟩, [], [], OpP.same hT hb, rfl⟩
  · by_cases hm : ∃ e ∈ es, e.1 = id
    · obtain ⟨e0, he0, rfl⟩ := hm
      by_cases h2 : 2 ≤ es.length
      · refine (remove_dsc h1 hl he0 h2).mono ?_
        rintro e W' ⟨rfl, P', h3, h4⟩
        have hrl := remE_len h1.ids (List.mem_map.2 ⟨e0, he0, rfl⟩)
        exact ⟨⟨_, rfl⟩, _, M :: B, ⟨.inr ⟨fun e => by rw [e] at hrl; simp at hrl; omega, P', y, B, M, h3, rfl⟩, h4, fun _ hr => .inl hr, fun e he => .inl (remE_mem.1 he).1⟩, remE_key es _⟩
      · have hes : es = [e0] := by
          rcases es with _ | ⟨a, _ | ⟨b, r⟩⟩
          · cases he0
          · rw [List.mem_singleton.1 he0]
          · simp at h2
        subst hes
        refine (remove_last h1).mono ?_
        rintro e W' ⟨rfl, h3, h4⟩
        exact ⟨⟨_, rfl⟩, [], [], ⟨.inl ⟨rfl, h3, rfl⟩, ⟨h4.os, h4.tape, h4.output, h4.size, fun k hk hn => h4.block k hk (fun hm => hn (by rw [List.mem_singleton.1 hm]; simp))⟩, fun r hr => (by cases hr), fun e he => (by cases he)⟩, by simp [delT, keyT]⟩
    · have hno : ∀ e ∈ es, e.1 ≠ id := fun e he e' => hm ⟨e, he, e'⟩
      refine (remove_gone h1 id hfit hno).mono ?_
      rintro e W' ⟨rfl, hb⟩
      refine ⟨⟨_, rfl⟩, es, M :: B, OpP.same hT hb, ?_⟩
      unfold delT
      rw [List.filter_eq_self.2]
      intro k hk
      obtain ⟨e, he, rfl⟩ := List.mem_map.1 hk
      exact decide_eq_true (hno e he)

end Go.Proofs.Ytijihmncbaoklaa

/-
  Two trees in one memory.
-/
namespace Go.Proofs.Ytijihmncbaoklaa
open Go.RowKit Go.Maps

/-- Two trees, apart, in blocks from n0 on. -/
structure TwoS (w : World) (n0 a b : Nat) (ea eb : List Kpt) (Ka Kb : List Nat) (W : World) : Prop where
  sa : Tst W a ea Ka
  sb : Tst W b eb Kb
  la : ∀ r ∈ a :: Ka, n0 ≤ r
  lb : ∀ r ∈ b :: Kb, n0 ≤ r
  dis : ∀ r ∈ a :: Ka, r ∉ b :: Kb
  aa : ∀ e ∈ ea, ArgsP (fun k => k ∉ b :: Kb) W e.2.2 e.2.1.args
  ab : ∀ e ∈ eb, ArgsP (fun k => k ∉ a :: Ka) W e.2.2 e.2.1.args
  bel : Below n0 w W
  n0l : n0 ≤ W.heap.size

theorem TwoS.swap {w : World} {n0 a b : Nat} {ea eb : List Kpt} {Ka Kb : List Nat} {W : World} (h : TwoS w n0 a b ea eb Ka Kb W) : TwoS w n0 b a eb ea Kb Ka W :=
  ⟨h.sb, h.sa, h.lb, h.la, fun r hr hm => h.dis r hm hr, h.ab, h.aa, h.bel, h.n0l⟩

theorem TwoS.keep {w : World} {n0 a b : Nat} {ea eb : List Kpt} {Ka Kb : List Nat} {W W' : World} (h : TwoS w n0 a b ea eb Ka Kb W) (hb : Below W.heap.size W W') : TwoS w n0 a b ea eb Ka Kb W' :=
  ⟨h.sa.keep hb, h.sb.keep hb, h.la, h.lb, h.dis, fun e he => (h.aa e he).keep hb.size (fun k hk hl => ⟨hk, hb.block k hl⟩), fun e he => (h.ab e he).keep hb.size (fun k hk hl => ⟨hk, hb.block k hl⟩), h.bel.trans (hb.mono h.n0l), Nat.le_trans h.n0l hb.size⟩

theorem args_lt {Q : Nat → Prop} {W : World} {sl : Value} {l : List T} (h : ArgsP Q W sl l) : ArgsP (fun k => k < W.heap.size) W sl l := by
  induction h with
  | mk a c l s hc hm at0 sub ih =>
    refine .mk a c l s hc hm (fun h0 => ?_) ih
    obtain ⟨b, o, hb, hlt, rfl, hcell⟩ := at0 h0
    exact ⟨b, o, hlt, hlt, rfl, hcell⟩

/-- A call on the first tree. -/
theorem TwoS.op {w : World} {n0 a b : Nat} {ea eb ea' : List Kpt} {Ka Kb Ka' : List Nat} {W W' : World} (h : TwoS w n0 a b ea eb Ka Kb W) (ho : OpP a ea Ka W ea' Ka' W') : TwoS w n0 a b ea' eb Ka' Kb W' := by
  have hlb := h.sb.lt
  have hn := h.n0l
  have hK' : ∀ r ∈ a :: Ka', r ∈ a :: Ka ∨ W.heap.size ≤ r := fun r hr => by
    rcases List.mem_cons.1 hr with rfl | hr
    · exact .inl (by simp)
    · exact (ho.blk r hr).imp (fun h => List.mem_cons_of_mem _ h) id
  have hd' : ∀ r ∈ b :: Kb, r ∉ a :: Ka := fun r hr hm => h.dis r hm hr
  refine ⟨ho.st, h.sb.other ho.only hd' h.ab, fun r hr => ?_, h.lb, fun r hr hm => ?_, fun e he => ?_, fun e he => ?_, only_below h.bel h.n0l ho.only h.la, Nat.le_trans h.n0l ho.only.size⟩
  · rcases hK' r hr with h1 | h1
    · exact h.la r h1
    · omega
  · rcases hK' r hr with h1 | h1
    · exact h.dis r h1 hm
    · have := hlb r hm; omega
  · rcases ho.ags e he with h1 | h1
    · exact (args_both (h.aa e h1) (h.sa.args e h1)).keep ho.only.size (fun k hk hl => ⟨hk.1, ho.only.block k hl hk.2⟩)
    · exact h1.keep (Nat.le_refl _) (fun k hk _ => ⟨fun hm => by have := hlb k hm; omega, rfl⟩)
  · refine (args_both (h.ab e he) (args_lt (h.ab e he))).keep ho.only.size (fun k hk hl => ⟨fun hm => ?_, ho.only.block k hl hk.1⟩)
    rcases hK' k hm with h1 | h1
    · exact hk.1 h1
    · have := hk.2; omega

/-- Two trees, told by what they keep. -/
def Two (w : World) (n0 a b : Nat) (A C : List (Int × T)) (W : World) : Prop := ∃ ea eb Ka Kb, TwoS w n0 a b ea eb Ka Kb W ∧ ea.map keyT = A ∧ eb.map keyT = C

theorem Two.keep {w : World} {n0 a b : Nat} {A C : List (Int × T)} {W W' : World} (h : Two w n0 a b A C W) (hb : Below W.heap.size W W') : Two w n0 a b A C W' := by
  obtain ⟨ea, eb, Ka, Kb, h1, h2, h3⟩ := h
  exact ⟨ea, eb, Ka, Kb, h1.keep hb, h2, h3⟩
theorem Two.bel {w : World} {n0 a b : Nat} {A C : List (Int × T)} {W : World} (h : Two w n0 a b A C W) : Below n0 w W := by
  obtain ⟨ea, eb, Ka, Kb, h1, h2, h3⟩ := h
  exact h1.bel

theorem Two.insA {w : World} {n0 a b : Nat} {A C : List (Int × T)} {W : World} (h : Two w n0 a b A C W) (hl : A.length ≤ 200) (t : T) (sl : Value) (id : Int) (ha : ArgsAt W sl t.args) (hsz : t.size ≤ 1048576) (hfit : Fit64 id) (hno : ∀ e ∈ A, e.1 ≠ id) :
    Calls Try.prog 7 #[.pointer (some ⟨a, 0, none⟩), .int .i64 id, tval t sl] W fun e W' => (∃ v, e = .returned (.int .i64 v)) ∧ Two w n0 a b (addT A id t) C W' := by
  obtain ⟨ea, eb, Ka, Kb, h1, rfl, h3⟩ := h
  refine (tins h1.sa (by simpa using hl) t sl id ha hsz hfit (fun e he => hno (keyT e) (List.mem_map.2 ⟨e, he, rfl⟩))).mono ?_
  rintro e W' ⟨hv, es', K', ho, hk⟩
  exact ⟨hv, es', eb, K', Kb, h1.op ho, hk, h3⟩
theorem Two.insB {w : World} {n0 a b : Nat} {A C : List (Int × T)} {W : World} (h : Two w n0 a b A C W) (hl : C.length ≤ 200) (t : T) (sl : Value) (id : Int) (ha : ArgsAt W sl t.args) (hsz : t.size ≤ 1048576) (hfit : Fit64 id) (hno : ∀ e ∈ C, e.1 ≠ id) :
    Calls Try.prog 7 #[.pointer (some ⟨b, 0, none⟩), .int .i64 id, tval t sl] W fun e W' => (∃ v, e = .returned (.int .i64 v)) ∧ Two w n0 a b A (addT C id t) W' := by
  obtain ⟨ea, eb, Ka, Kb, h1, h2, rfl⟩ := h
  refine (tins h1.sb (by simpa using hl) t sl id ha hsz hfit (fun e he => hno (keyT e) (List.mem_map.2 ⟨e, he, rfl⟩))).mono ?_
  rintro e W' ⟨hv, es', K', ho, hk⟩
  exact ⟨hv, ea, es', Ka, K', (h1.swap.op ho).swap, h2, hk⟩
theorem Two.remB {w : World} {n0 a b : Nat} {A C : List (Int × T)} {W : World} (h : Two w n0 a b A C W) (hl : C.length ≤ 200) (id : Int) (hfit : Fit64 id) :
    Calls Try.prog 8 #[.pointer (some ⟨b, 0, none⟩), .int .i64 id] W fun e W' => (∃ v, e = .returned (.int .i64 v)) ∧ Two w n0 a b A (delT C id) W' := by
  obtain ⟨ea, eb, Ka, Kb, h1, h2, rfl⟩ := h
  refine (trem h1.sb (by simpa using hl) id hfit).mono ?_
  rintro e W' ⟨hv, es', K', ho, hk⟩
  exact ⟨hv, ea, es', Ka, K', (h1.swap.op ho).swap, h2, hk⟩

/-- Two new trees. -/
theorem Two.start {w W : World} {n0 a b : Nat} (ha : Emp W a) (hb : Emp W b) (h1 : n0 ≤ a) (h2 : n0 ≤ b) (hne : a ≠ b) (hbel : Below n0 w W) : Two w n0 a b [] [] W :=
  ⟨[], [], [], [], ⟨.inl ⟨rfl, ha, rfl⟩, .inl ⟨rfl, hb, rfl⟩, by simpa using h1, by simpa using h2, by simpa using hne, by simp, by simp, hbel, by have := (Array.getElem?_eq_some_iff.1 ha).1; omega⟩, rfl, rfl⟩

end Go.Proofs.Ytijihmncbaoklaa

/-
  What two trees that keep the same tell.
-/
namespace Go.Proofs.Ytijihmncbaoklaa
open Go.RowKit Go.Maps

theorem len_emp {x : Nat} {W : World} (h : Emp W x) : Calls Try.prog 11 #[.pointer (some ⟨x, 0, none⟩)] W fun e W' => e = .returned (.int .i64 0) ∧ W' = W := by
  have c1 : W.cell? ⟨x, 1, none⟩ = some (.map none) := cell_store (vs := [_, _, _]) h rfl
  have hl : (Builtin.len_ #[43] 3 #[.map none]).run Try.prog W = .ok (.int .i64 0) W := by kernel_rfl
  clear h
  go_enter Try.func11, Try.ntmps11
  go_wp2
  go_ret
  exact ⟨rfl, rfl⟩
theorem nodes_emp {x : Nat} {W : World} (h : Emp W x) : Calls Try.prog 10 #[.pointer (some ⟨x, 0, none⟩)] W fun e W' => e = .returned (.int .i64 0) ∧ W' = W := by
  have c1 : W.cell? ⟨x, 2, none⟩ = some (.int .i64 0) := cell_store (vs := [_, _, _]) h rfl
  clear h
  go_enter Try.func10, Try.ntmps10
  go_wp2
  go_ret
  exact ⟨rfl, rfl⟩

theorem tlen {W : World} {x : Nat} {es : List Kpt} {K : List Nat} (h : Tst W x es K) : Calls Try.prog 11 #[.pointer (some ⟨x, 0, none⟩)] W fun e W' => e = .returned (.int .i64 es.length) ∧ W' = W := by
  rcases h with ⟨rfl, h1, _⟩ | ⟨_, P, y, B, M, h1, _⟩
  · exact len_emp h1
  · exact len_dsc h1

/-- How many nodes. -/
def Cnt (es : List Kpt) (n : Nat) : Prop := (es = [] ∧ n = 0) ∨ (es ≠ [] ∧ ∃ P : List Path, P.Nodup ∧ (∀ q, q ∈ P ↔ OnWay es q) ∧ n = P.length)
theorem tnodes {W : World} {x : Nat} {es : List Kpt} {K : List Nat} (h : Tst W x es K) : ∃ n : Nat, Cnt es n ∧ Calls Try.prog 10 #[.pointer (some ⟨x, 0, none⟩)] W fun e W' => e = .returned (.int .i64 n) ∧ W' = W := by
  rcases h with ⟨rfl, h1, _⟩ | ⟨hne, P, y, B, M, h1, _⟩
  · exact ⟨0, .inl ⟨rfl, rfl⟩, nodes_emp h1⟩
  · exact ⟨P.length, .inr ⟨hne, P, h1.tre.tri.nod, h1.mem, rfl⟩, nodes_dsc h1⟩

theorem onWay_key {es : List Kpt} {q : Path} : OnWay es q ↔ ∃ k ∈ es.map keyT, q <+: k.2.path := by
  constructor
  · rintro ⟨e, he, h⟩
    exact ⟨keyT e, List.mem_map.2 ⟨e, he, rfl⟩, h⟩
  · rintro ⟨k, hk, h⟩
    obtain ⟨e, he, rfl⟩ := List.mem_map.1 hk
    exact ⟨e, he, h⟩
theorem onWay_same {ea eb : List Kpt} (h : ∀ k, k ∈ ea.map keyT ↔ k ∈ eb.map keyT) : OnWay ea = OnWay eb := by
  funext q
  rw [onWay_key, onWay_key]
  refine propext ⟨fun ⟨k, hk, hq⟩ => ⟨k, (h k).1 hk, hq⟩, fun ⟨k, hk, hq⟩ => ⟨k, (h k).2 hk, hq⟩⟩
theorem same_nil {ea eb : List Kpt} (h : ∀ k, k ∈ ea.map keyT ↔ k ∈ eb.map keyT) (h0 : ea = []) : eb = [] := by
  subst h0
  rcases eb with _ | ⟨e, r⟩
  · rfl
  · have := (h (keyT e)).2 (by simp)
    cases this
theorem cnt_same {ea eb : List Kpt} {n m : Nat} (h : ∀ k, k ∈ ea.map keyT ↔ k ∈ eb.map keyT) (ha : Cnt ea n) (hb : Cnt eb m) : n = m := by
  rcases ha with ⟨h1, h2⟩ | ⟨h1, P, h2, h3, h4⟩
  · rcases hb with ⟨h5, h6⟩ | ⟨h5, _⟩
    · rw [h2, h6]
    · exact absurd (same_nil h h1) h5
  · rcases hb with ⟨h5, h6⟩ | ⟨h5, Q, h6, h7, h8⟩
    · exact absurd (same_nil (fun k => (h k).symm) h5) h1
    · rw [h4, h8]
      have e := onWay_same h
      refine Nat.le_antisymm (nodup_lenP P Q h2 (fun q hq => (h7 q).2 (e ▸ (h3 q).1 hq))) (nodup_lenP Q P h6 (fun q hq => (h3 q).2 (e ▸ (h7 q).1 hq)))

/-- What Generals tells. -/
def TGenP (es : List Kpt) (t : T) (w : World) (e : Ending) (W : World) : Prop :=
  ∃ v hs, e = .returned v ∧ W.ownsRow w.heap.size 36 2 v hs.length (flH hs) ∧ SortedH hs ∧ Below w.heap.size w W ∧ (∀ h ∈ hs, ∃ e ∈ es, e.1 = h.1 ∧ ∃ τ ks, mres e.2.1 t = some τ ∧ RiseT τ ks ∧ BindsAt W h.val (listB τ ks)) ∧
    (∀ z, z ∈ hs.map (·.1) ↔ t.rightW = 0 ∧ ∃ e ∈ es, e.1 = z ∧ e.2.1.path ∈ ends (OnWay es) [] [t] ∧ mres e.2.1 t ≠ none) ∧ (hs.map (·.1)).Nodup

theorem tgen_none {es : List Kpt} {t : T} {w W : World} (hb : Below w.heap.size w W) (hno : t.rightW ≠ 0 ∨ es = []) : TGenP es t w (.returned (.slice none 0 0)) W := by
  refine ⟨_, [], rfl, World.ownsRow_nil _ _ _ _, fun i j hj => absurd hj (by simp), hb, by simp, fun z => ⟨fun h => by simp at h, fun ⟨h1, e, he, _⟩ => ?_⟩, by simp⟩
  rcases hno with h | h
  · exact absurd h1 h
  · rw [h] at he; cases he

theorem tgen {W : World} {x : Nat} {es : List Kpt} {K : List Nat} (h : Tst W x es K) (hl : es.length ≤ 200) (t : T) (sl : Value) (ha : ArgsAt W sl t.args) (hsz : t.size ≤ 1048576) :
    Calls Try.prog 9 #[.pointer (some ⟨x, 0, none⟩), tval t sl] W (TGenP es t W) := by
  by_cases hok : t.rightW = 0 ∧ es ≠ []
  · obtain ⟨hr, hne⟩ := hok
    rcases h with ⟨h0, _⟩ | ⟨_, P, y, B, M, h1, _⟩
    · exact absurd h0 hne
    · refine (generals_any h1 hne hl t sl ha hr hsz sort_ok).mono ?_
      rintro e W' ⟨v, hs, rfl, g1, g2, g3, g4, g5, g6⟩
      have hP : (fun q => q ∈ P) = OnWay es := by funext q; exact propext (h1.mem q)
      refine ⟨v, hs, rfl, g1, g2, g3, g4, fun z => ?_, g6⟩
      rw [g5 z]
      have e : ends (· ∈ P) [] [t] = ends (OnWay es) [] [t] := congrArg (fun F => ends F [] [t]) hP
      rw [e]
      exact ⟨fun h => ⟨hr, h⟩, fun h => h.2⟩
  · have hno : t.rightW ≠ 0 ∨ es = [] := by
      by_cases h1 : t.rightW = 0
      · exact .inr (Classical.not_not.1 fun h2 => hok ⟨h1, h2⟩)
      · exact .inl h1
    obtain ⟨a, c, rfl, _, _⟩ := ha.slice
    obtain ⟨W2, hW2⟩ : ∃ X, (W.alloc (.cells #[.pointer (some ⟨x, 0, none⟩)] 25)).alloc (tbox t (.slice a t.args.length c)) = X := ⟨_, rfl⟩
    have b2 : Below W.heap.size W W2 := by rw [← hW2]; exact below_box2 _ _ _
    have z2 : W2.heap[W.heap.size]? = some (.cells #[.pointer (some ⟨x, 0, none⟩)] 25 (0, 0)) := by
      rw [← hW2, Below.heap_alloc _ _ _ (by simp)]
      exact (MapKept.heap_alloc _ _).1
    have t2 : W2.heap[W.heap.size + 1]? = some (.cells #[.int .i64 t.v, .string t.fn, .slice a t.args.length c] 24 (0, 0)) := by
      have := (MapKept.heap_alloc (W.alloc (.cells #[.pointer (some ⟨x, 0, none⟩)] 25)) (tbox t (.slice a t.args.length c))).1
      rw [World.size_alloc] at this
      rw [← hW2]; exact this
    have hln := tlen (h.keep b2)
    have hrt := right_at t (.slice a t.args.length c) W W2 b2 ha hsz
    have x0 : W2.cell? ⟨W.heap.size, 0, none⟩ = some (.pointer (some ⟨x, 0, none⟩)) := cell_store (vs := [_]) z2 rfl
    obtain ⟨y0, y1, y2⟩ : W2.cell? ⟨W.heap.size + 1, 0, none⟩ = some (.int .i64 t.v) ∧ W2.cell? ⟨W.heap.size + 1, 1, none⟩ = some (.string t.fn) ∧ W2.cell? ⟨W.heap.size + 1, 2, none⟩ = some (.slice a t.args.length c) := ⟨cell_store (vs := [_, _, _]) t2 rfl, cell_store (vs := [_, _, _]) t2 rfl, cell_store (vs := [_, _, _]) t2 rfl⟩
    have HB := hid b2
    have HN : Hid (t.rightW ≠ 0 ∨ es = []) := hno
    clear h ha b2 z2 t2 hok
    by_cases h0 : es = []
    · subst h0
      clear hno hrt
      go_enter Try.func9, Try.ntmps9
      go_upto_region 1 with fail
      try rw [hW2]
      go_wp2_with fail
      refine hln.mono ?_
      rintro e w' ⟨rfl, hw'⟩
      rw [hw']
      clear hw' hln
      go_wp2
      go_ret
      exact tgen_none HB.out (.inr rfl)
    · have hr' : (t.rightW != 0) = true := by
        rcases hno with h | h
        · rw [bne_iff_ne]; exact h
        · exact absurd h h0
      have hl0 : ((es.length : Int) == 0) = false := by
        rw [beq_eq_false_iff_ne]
        intro e
        exact h0 (List.length_eq_zero_iff.1 (by omega))
      clear hno h0
      go_enter Try.func9, Try.ntmps9
      go_upto_region 1 with fail
      try rw [hW2]
      go_wp2_with fail
      refine hln.mono ?_
      rintro e w' ⟨rfl, hw'⟩
      rw [hw']
      clear hw' hln
      go_wp2_with fail
      refine hrt.mono ?_
      rintro e W3 ⟨rfl, hb3⟩
      clear hrt
      go_wp2
      go_ret
      exact tgen_none (HB.out.trans (hb3.mono HB.out.size)) HN.out

theorem sorted_eq : ∀ (l m : List HE), SortedH l → SortedH m → (l.map (·.1)).Nodup → (m.map (·.1)).Nodup → (∀ z, z ∈ l.map (·.1) ↔ z ∈ m.map (·.1)) → l.map (·.1) = m.map (·.1) := by
  have key : ∀ l : List HE, SortedH l → (l.map (·.1)).Pairwise (· ≤ ·) := fun l h => by
    rw [List.pairwise_iff_getElem]
    intro i j hi hj hij
    simp only [List.getElem_map]
    exact h i j (by simpa using hj) hij
  intro l m h1 h2 n1 n2 hm
  have p : (l.map (·.1)).Perm (m.map (·.1)) := (List.perm_ext_iff_of_nodup n1 n2).2 hm
  exact p.eq_of_pairwise (fun a b _ _ h1 h2 => by omega) (key l h1) (key m h2)

theorem rise_one {τ : Ta} {k1 k2 : List Int} (h1 : RiseT τ k1) (h2 : RiseT τ k2) : k1 = k2 := by
  have n1 : k1.Nodup := h1.1.imp (fun h => by omega)
  have n2 : k2.Nodup := h2.1.imp (fun h => by omega)
  have p : k1.Perm k2 := (List.perm_ext_iff_of_nodup n1 n2).2 (fun z => (h1.2 z).trans (h2.2 z).symm)
  exact p.eq_of_pairwise (fun a b _ _ h1 h2 => by omega) h1.1 h2.1

end Go.Proofs.Ytijihmncbaoklaa

/-
  The law of two trees that keep the same.
-/
namespace Go.Proofs.Ytijihmncbaoklaa
open Go.RowKit Go.Maps Go.Shelf

attribute [local go_sem] Oper.semAt_some

theorem addT_mem {A : List (Int × T)} {id : Int} {t : T} {k : Int × T} : k ∈ addT A id t ↔ k ∈ A ∨ (k = (id, t) ∧ t.rightW = 0) := by
  unfold addT
  by_cases h : t.rightW = 0
  · rw [if_pos h]; simp [h]
  · rw [if_neg h]; simp [h]
theorem addT_len {A : List (Int × T)} {id : Int} {t : T} : (addT A id t).length ≤ A.length + 1 := by
  unfold addT
  by_cases h : t.rightW = 0
  · rw [if_pos h]; simp
  · rw [if_neg h]; omega
theorem delT_mem {A : List (Int × T)} {id : Int} {k : Int × T} : k ∈ delT A id ↔ k ∈ A ∧ k.1 ≠ id := by simp [delT]
theorem delT_len {A : List (Int × T)} {id : Int} : (delT A id).length ≤ A.length := List.length_filter_le _ _

/-- What the first tree keeps, behind i rounds. -/
def UpTo (l : List T) (i : Nat) (A : List (Int × T)) : Prop := A.length ≤ i ∧ ∀ k, k ∈ A ↔ ∃ (j : Nat) (hj : j < l.length), j < i ∧ k = ((j : Int), l[j]) ∧ (l[j]).rightW = 0
/-- What the second one keeps of the first list, behind i rounds: from the end. -/
def Down (l : List T) (i : Nat) (C : List (Int × T)) : Prop := ∀ k, k.1 < 1000 → (k ∈ C ↔ ∃ (j : Nat) (hj : j < l.length), l.length ≤ j + i ∧ k = ((j : Int), l[j]) ∧ (l[j]).rightW = 0)
/-- What else it keeps: numbers from 1000 + i up to 1000 + n. -/
def High (i n : Nat) (C : List (Int × T)) : Prop := ∀ k ∈ C, 1000 ≤ k.1 → ∃ j : Nat, i ≤ j ∧ j < n ∧ k.1 = 1000 + (j : Int)

theorem upTo_next {l : List T} {i : Nat} {A : List (Int × T)} (h : UpTo l i A) (hi : i < l.length) : UpTo l (i + 1) (addT A (i : Int) l[i]) := by
  refine ⟨Nat.le_trans addT_len (by have := h.1; omega), fun k => ?_⟩
  rw [addT_mem, h.2]
  constructor
  · rintro (⟨j, hj, h1, h2, h3⟩ | ⟨h2, h3⟩)
    · exact ⟨j, hj, by omega, h2, h3⟩
    · exact ⟨i, hi, by omega, h2, h3⟩
  · rintro ⟨j, hj, h1, h2, h3⟩
    by_cases e : j = i
    · subst e; exact .inr ⟨h2, h3⟩
    · exact .inl ⟨j, hj, by omega, h2, h3⟩
theorem upTo_new {l : List T} {i : Nat} {A : List (Int × T)} (h : UpTo l i A) : ∀ k ∈ A, k.1 ≠ (i : Int) := fun k hk e => by
  obtain ⟨j, hj, h1, rfl, _⟩ := (h.2 k).1 hk
  simp only at e
  omega
theorem down_next {l : List T} {i n : Nat} {C : List (Int × T)} (h : Down l i C) (hn : n < l.length) (hi : n + i + 1 = l.length) : Down l (i + 1) (addT C (n : Int) l[n]) := fun k hk => by
  rw [addT_mem, h k hk]
  constructor
  · rintro (⟨j, hj, h1, h2, h3⟩ | ⟨h2, h3⟩)
    · exact ⟨j, hj, by omega, h2, h3⟩
    · exact ⟨n, hn, by omega, h2, h3⟩
  · rintro ⟨j, hj, h1, h2, h3⟩
    by_cases e : j = n
    · subst e; exact .inr ⟨h2, h3⟩
    · exact .inl ⟨j, hj, by omega, h2, h3⟩
theorem down_new {l : List T} {i n : Nat} {C : List (Int × T)} (h : Down l i C) (hi : n + i + 1 = l.length) (hl : l.length ≤ 30) : ∀ k ∈ C, k.1 ≠ (n : Int) := fun k hk e => by
  obtain ⟨j, hj, h1, rfl, _⟩ := (h k (by omega)).1 hk
  simp only at e
  omega
theorem high_add {i n : Nat} {C : List (Int × T)} (h : High i n C) {id : Int} {t : T} (hid : id < 1000) : High i n (addT C id t) := fun k hk h1 => by
  rcases addT_mem.1 hk with h2 | ⟨rfl, _⟩
  · exact h k h2 h1
  · simp only at h1; omega
theorem low_same {l : List T} {m i : Nat} {A C : List (Int × T)} (hl : l.length ≤ 30) (hA : UpTo l l.length A) (hC : Down l l.length C) (hH : High i m C) (hi : m ≤ i) : ∀ k, k ∈ A ↔ k ∈ C := fun k => by
  by_cases hk : k.1 < 1000
  · rw [hA.2, hC k hk]
    constructor
    · rintro ⟨j, hj, h1, h2, h3⟩; exact ⟨j, hj, by omega, h2, h3⟩
    · rintro ⟨j, hj, h1, h2, h3⟩; exact ⟨j, hj, hj, h2, h3⟩
  · constructor
    · intro h
      obtain ⟨j, hj, _, rfl, _⟩ := (hA.2 k).1 h
      simp only at hk
      omega
    · intro h
      obtain ⟨j, h1, h2, _⟩ := hH k h (by omega)
      omega

end Go.Proofs.Ytijihmncbaoklaa

/-
  The law of two trees that keep the same: its walk.
-/
namespace Go.Proofs.Ytijihmncbaoklaa
open Go.RowKit Go.Maps Go.Shelf

attribute [local go_sem] Oper.semAt_some

theorem wrap_id {z : Int} (h0 : 0 ≤ z) (h1 : z ≤ 1000000) : IntKind.i64.wrap z = z := by
  obtain ⟨n, rfl⟩ := Int.eq_ofNat_of_zero_le h0
  cases n with
  | zero => rfl
  | succ k => have := wrap_succ (n := k) (n1 := k + 1) rfl (by omega); push_cast at this ⊢; exact this

/-- What both trees told: rows of hits that are the same. -/
def Row2 (v1 v2 : Value) (n : Nat) (W : World) : Prop :=
  ∃ (h1 h2 : List HE) (u1 u2 : Nat), W.ownsRow u1 36 2 v1 n (flH h1) ∧ W.ownsRow u2 36 2 v2 n (flH h2) ∧ h1.length = n ∧ h2.length = n ∧ h1.map (·.1) = h2.map (·.1) ∧ ∀ i (hi : i < h1.length) (hj : i < h2.length), ∃ bs, BindsAt W (h1[i]).val bs ∧ BindsAt W (h2[i]).val bs

theorem row_below {W W' : World} {u : Nat} {e : TypeId} {k : Nat} {v : Value} {n : Nat} {xs : List Value} (h : W.ownsRow u e k v n xs) (hb : Below W.heap.size W W') : W'.ownsRow u e k v n xs := row6_keep h (fun g hg => hb.block g (h.lt g hg).2)

theorem Row2.keep {v1 v2 : Value} {n : Nat} {W W' : World} (h : Row2 v1 v2 n W) (hb : Below W.heap.size W W') : Row2 v1 v2 n W' := by
  obtain ⟨h1, h2, u1, u2, r1, r2, l1, l2, hm, hbs⟩ := h
  refine ⟨h1, h2, u1, u2, row_below r1 hb, row_below r2 hb, l1, l2, hm, fun i hi hj => ?_⟩
  obtain ⟨bs, b1, b2⟩ := hbs i hi hj
  exact ⟨bs, b1.keep hb, b2.keep hb⟩

theorem rowH_nth {W : World} {u n c : Nat} {a : Option Addr} {h : List HE} (hr : W.ownsRow u 36 2 (.slice a n c) n (flH h)) (hl : h.length = n) {i : Nat} (hi : i < h.length) : ∃ g, a = some ⟨g, 0, none⟩ ∧ n ≤ c ∧ c ≤ maxLen ∧ W.cell? ⟨g, i * 2, none⟩ = some (.int .i64 (h[i]).1) ∧ W.cell? ⟨g, i * 2 + 1, none⟩ = some (h[i]).val := by
  obtain ⟨f0, f1⟩ := flH_get h i hi
  rcases hr.2 with ⟨_, h0⟩ | ⟨g, cap, cur, e, hg1, hg2, hg3, hg4, _, _⟩
  · omega
  · cases e
    have cl : ∀ k v, (flH h)[k]? = some v → W.cell? ⟨g, k, none⟩ = some v := fun k v hk => by
      have := hr.cells rfl k v hk
      rwa [Addr.add_mid, Nat.zero_add] at this
    exact ⟨g, rfl, hg3, hg4, cl _ _ f0, cl _ _ f1⟩

theorem Row2.nth {a1 a2 : Option Addr} {c1 c2 n : Nat} {W : World} (h : Row2 (.slice a1 n c1) (.slice a2 n c2) n W) {i : Nat} (hi : i < n) : ∃ g1 g2 z x1 m1 y1 x2 m2 y2 bs, a1 = some ⟨g1, 0, none⟩ ∧ a2 = some ⟨g2, 0, none⟩ ∧ n ≤ c1 ∧ n ≤ c2 ∧ c1 ≤ maxLen ∧ c2 ≤ maxLen ∧ W.cell? ⟨g1, i * 2, none⟩ = some (.int .i64 z) ∧ W.cell? ⟨g2, i * 2, none⟩ = some (.int .i64 z) ∧ W.cell? ⟨g1, i * 2 + 1, none⟩ = some (.slice x1 m1 y1) ∧ W.cell? ⟨g2, i * 2 + 1, none⟩ = some (.slice x2 m2 y2) ∧ BindsAt W (.slice x1 m1 y1) bs ∧ BindsAt W (.slice x2 m2 y2) bs := by
  obtain ⟨h1, h2, u1, u2, r1, r2, l1, l2, hm, hbs⟩ := h
  obtain ⟨g1, e1, p1, q1, d0, d1⟩ := rowH_nth r1 l1 (i := i) (by omega)
  obtain ⟨g2, e2, p2, q2, k0, k1⟩ := rowH_nth r2 l2 (i := i) (by omega)
  obtain ⟨bs, b1, b2⟩ := hbs i (by omega) (by omega)
  have hz : (h1[i]'(by omega)).1 = (h2[i]'(by omega)).1 := by
    have := congrArg (fun l => l[i]?) hm
    simpa [show i < h1.length by omega, show i < h2.length by omega] using this
  rw [← hz] at k0
  exact ⟨g1, g2, _, _, _, _, _, _, _, bs, e1, e2, p1, p2, q1, q2, d0, k0, d1, k1, b1, b2⟩

theorem Row2.forms {v1 v2 : Value} {n : Nat} {W : World} (h : Row2 v1 v2 n W) : ∃ a1 c1 a2 c2, v1 = .slice a1 n c1 ∧ v2 = .slice a2 n c2 := by
  obtain ⟨h1, h2, u1, u2, r1, r2, _⟩ := h
  obtain ⟨a1, c1, e1⟩ := rowB_form r1
  obtain ⟨a2, c2, e2⟩ := rowB_form r2
  exact ⟨a1, c1, a2, c2, e1, e2⟩

theorem len_same {ea eb : List Kpt} (na : (ea.map (·.1)).Nodup) (nb : (eb.map (·.1)).Nodup) (h : ∀ k, k ∈ ea.map keyT ↔ k ∈ eb.map keyT) : ea.length = eb.length := by
  have sub : ∀ {ea eb : List Kpt}, (∀ k, k ∈ ea.map keyT → k ∈ eb.map keyT) → ∀ z ∈ ea.map (·.1), z ∈ eb.map (·.1) := fun h z hz => by
    obtain ⟨e, he, rfl⟩ := List.mem_map.1 hz
    obtain ⟨e', he', hk⟩ := List.mem_map.1 (h (keyT e) (List.mem_map.2 ⟨e, he, rfl⟩))
    exact List.mem_map.2 ⟨e', he', congrArg (fun k : Int × T => k.1) hk⟩
  have h1 := nodup_len _ _ na (sub fun k => (h k).1)
  have h2 := nodup_len _ _ nb (sub fun k => (h k).2)
  simp only [List.length_map] at h1 h2
  omega

/-- The two trees have been asked. -/
def Told2 (W0 : World) (n0 a b : Nat) (v1 v2 : Value) (W : World) : Prop :=
  ∃ ea eb Ka Kb n, TwoS W0 n0 a b ea eb Ka Kb W ∧ (∀ k, k ∈ ea.map keyT ↔ k ∈ eb.map keyT) ∧ Row2 v1 v2 n W ∧ n ≤ 200

theorem told_two {W0 : World} {n0 a b : Nat} {ea eb : List Kpt} {Ka Kb : List Nat} {t : T} {v1 v2 : Value} {W W5 W6 : World} (h : TwoS W0 n0 a b ea eb Ka Kb W) (hl : ea.length ≤ 200) (hk : ∀ k, k ∈ ea.map keyT ↔ k ∈ eb.map keyT) (g1 : TGenP ea t W (.returned v1) W5) (g2 : TGenP eb t W5 (.returned v2) W6) : Told2 W0 n0 a b v1 v2 W6 := by
  obtain ⟨_, h1, e1, r1, s1, b1, t1, i1, n1⟩ := g1
  cases e1
  obtain ⟨_, h2, e2, r2, s2, b2, t2, i2, n2⟩ := g2
  cases e2
  have hW := onWay_same hk
  have hmem : ∀ z, z ∈ h1.map (·.1) ↔ z ∈ h2.map (·.1) := fun z => by
    rw [i1, i2, hW]
    constructor
    · rintro ⟨q0, e, he, q1, q2, q3⟩
      obtain ⟨e', he', hke⟩ := List.mem_map.1 ((hk (keyT e)).1 (List.mem_map.2 ⟨e, he, rfl⟩))
      have h3 : e'.1 = e.1 := congrArg (fun k : Int × T => k.1) hke
      have h4 : e'.2.1 = e.2.1 := congrArg (fun k : Int × T => k.2) hke
      exact ⟨q0, e', he', h3.trans q1, by rw [h4]; exact q2, by rw [h4]; exact q3⟩
    · rintro ⟨q0, e, he, q1, q2, q3⟩
      obtain ⟨e', he', hke⟩ := List.mem_map.1 ((hk (keyT e)).2 (List.mem_map.2 ⟨e, he, rfl⟩))
      have h3 : e'.1 = e.1 := congrArg (fun k : Int × T => k.1) hke
      have h4 : e'.2.1 = e.2.1 := congrArg (fun k : Int × T => k.2) hke
      exact ⟨q0, e', he', h3.trans q1, by rw [h4]; exact q2, by rw [h4]; exact q3⟩
  have heq := sorted_eq h1 h2 s1 s2 n1 n2 hmem
  have hlen : h1.length = h2.length := by have := congrArg List.length heq; simpa using this
  have hle : h1.length ≤ 200 := by
    have h3 := nodup_len (h1.map (·.1)) (ea.map (·.1)) n1 (fun z hz => by obtain ⟨_, e, he, h4, _⟩ := (i1 z).1 hz; exact List.mem_map.2 ⟨e, he, h4⟩)
    simp only [List.length_map] at h3
    omega
  refine ⟨ea, eb, Ka, Kb, h1.length, (h.keep b1).keep b2, hk, ⟨h1, h2, _, _, row_below r1 b2, by rw [hlen]; exact r2, rfl, hlen.symm, heq, fun i hi hj => ?_⟩, hle⟩
  obtain ⟨p, hp, p1, τ, ks, p2, p3, p4⟩ := t1 h1[i] (List.getElem_mem hi)
  obtain ⟨q, hq, q1, σ, js, q2, q3, q4⟩ := t2 h2[i] (List.getElem_mem hj)
  have hz : (h1[i]).1 = (h2[i]).1 := by
    have := congrArg (fun l => l[i]?) heq
    simpa [hi, hj] using this
  obtain ⟨q', hq', hke⟩ := List.mem_map.1 ((hk (keyT p)).1 (List.mem_map.2 ⟨p, hp, rfl⟩))
  have h3 : q'.1 = p.1 := congrArg (fun k : Int × T => k.1) hke
  have h4 : q'.2.1 = p.2.1 := congrArg (fun k : Int × T => k.2) hke
  have : q' = q := ids_inj h.sb.ids hq' hq (by rw [h3, p1, q1, hz])
  rw [← this, h4, p2] at q2
  cases q2
  rw [rise_one q3 p3] at q4
  exact ⟨_, p4.keep b2, q4⟩

set_option maxRecDepth 100000 in
set_option maxHeartbeats 8000000 in
theorem laworder_any (l m : List T) (t : T) (vl vm st : Value) (w : World) (hl : ArgsAt w vl l) (hm : ArgsAt w vm m) (ht : ArgsAt w st t.args) (sl : ∀ x ∈ l, x.size ≤ 1048576) (sm : ∀ x ∈ m, x.size ≤ 1048576) (sz : t.size ≤ 1048576) (ll : l.length ≤ 1048576) (lm : m.length ≤ 1048576) :
    Calls Try.prog 3 #[vl, vm, tval t st] w fun e w' => e = .returned (.bool true) ∧ Below w.heap.size w w' := by
  refine (callsIn_wide (n := 9)).1 ?_
  obtain ⟨la, lc, rfl, lc1, lc2⟩ := hl.slice
  obtain ⟨ma, mc, rfl, mc1, mc2⟩ := hm.slice
  obtain ⟨ta, tc, rfl, _, _⟩ := ht.slice
  obtain ⟨W1, hW1⟩ : ∃ X, w.alloc (tbox t (.slice ta t.args.length tc)) = X := ⟨_, rfl⟩
  have b1 : Below w.heap.size w W1 := by rw [← hW1]; exact below_box _ _
  have s1 : W1.heap.size = w.heap.size + 1 := by rw [← hW1]; simp
  have z1 : W1.heap[w.heap.size]? = some (.cells #[.int .i64 t.v, .string t.fn, .slice ta t.args.length tc] 24 (0, 0)) := by rw [← hW1]; exact (MapKept.heap_alloc _ _).1
  have hn1 := new_any W1
  have H0 : Hid (ArgsAt w (.slice la l.length lc) l ∧ ArgsAt w (.slice ma m.length mc) m ∧ ArgsAt w (.slice ta t.args.length tc) t.args ∧ (∀ x ∈ l, x.size ≤ 1048576) ∧ (∀ x ∈ m, x.size ≤ 1048576) ∧ t.size ≤ 1048576) := ⟨hl, hm, ht, sl, sm, sz⟩
  have HB1 : Hid (Below w.heap.size w W1 ∧ W1.heap.size = w.heap.size + 1 ∧ W1.heap[w.heap.size]? = some (.cells #[.int .i64 t.v, .string t.fn, .slice ta t.args.length tc] 24 (0, 0))) := ⟨b1, s1, z1⟩
  clear hl hm ht sl sm sz b1 s1 z1
  refine callsIn_of_wp Try.func3 rfl trivial ?_ rfl
  simp only [Try.ntmps3, List.size_toArray, List.length_cons, List.length_nil, Nat.reduceAdd, Nat.reduceSub, Array.replicate_succ, Array.replicate_zero, List.push_toArray, List.append_toArray, List.nil_append, List.cons_append]
  gi_upto_region 1 with fail
  try rw [hW1]
  clear hW1
  gi_wp2_with fail
  refine ⟨trivial, (callsIn_wide.2 hn1).mono ?_⟩
  rintro e W2 ⟨rfl, hE2, hb2, hs2⟩
  clear hn1
  have hn2 := new_any W2
  gi_wp2_with fail
  refine ⟨trivial, (callsIn_wide.2 hn2).mono ?_⟩
  rintro e W3 ⟨rfl, hE3, hb3, hs3⟩
  clear hn2
  obtain ⟨a, ha⟩ : ∃ a, W1.heap.size = a := ⟨_, rfl⟩
  obtain ⟨b, hb⟩ : ∃ b, W2.heap.size = b := ⟨_, rfl⟩
  have hT3 : Two W1 W1.heap.size a b [] [] W3 := Two.start ((hb3.block a (by omega)).trans (by rw [← ha]; exact hE2)) (by rw [← hb]; exact hE3) (by omega) (by omega) (by omega) (hb2.trans (hb3.mono hb2.size))
  rw [ha, hb]
  clear hE2 hb2 hs2 hE3 hb3 hs3 ha hb
  have hal := alive_any W3
  have HT3 := hid hT3
  clear hT3
  gi_wp2_with fail
  refine ⟨trivial, (callsIn_wide.2 hal).mono ?_⟩
  rintro e W4 ⟨rfl, hb4⟩
  clear hal
  have HT4 : Hid (Two W1 W1.heap.size a b [] [] W4) := HT3.out.keep hb4
  clear HT3 hb4
  by_cases g1 : 30 < l.length
  · have q1 : decide ((30 : Int) < (l.length : Int)) = true := by simp; omega
    have hal := alive_any W4
    gi_wp2_with fail
    refine ⟨trivial, (callsIn_wide.2 hal).mono ?_⟩
    rintro e W5 ⟨rfl, hb5⟩
    clear hal
    have HF : Hid (Below w.heap.size w W5) := HB1.out.1.trans (((HT4.out.keep hb5).bel).mono (by have := HB1.out.2.1; omega))
    gi_wp2
    go_ret
    exact ⟨rfl, HF.out⟩
  · by_cases g2 : 30 < m.length
    · have q1 : decide ((30 : Int) < (l.length : Int)) = false := by simp; omega
      have q2 : decide ((30 : Int) < (m.length : Int)) = true := by simp; omega
      have hal := alive_any W4
      gi_wp2_with fail
      refine ⟨trivial, (callsIn_wide.2 hal).mono ?_⟩
      rintro e W5 ⟨rfl, hb5⟩
      clear hal
      have HF : Hid (Below w.heap.size w W5) := HB1.out.1.trans (((HT4.out.keep hb5).bel).mono (by have := HB1.out.2.1; omega))
      gi_wp2
      go_ret
      exact ⟨rfl, HF.out⟩
    · have q1 : decide ((30 : Int) < (l.length : Int)) = false := by simp; omega
      have q2 : decide ((30 : Int) < (m.length : Int)) = false := by simp; omega
      have HW : Hid (∀ A C W, Two W1 W1.heap.size a b A C W → ArgsAt W (.slice la l.length lc) l ∧ ArgsAt W (.slice ma m.length mc) m ∧ ArgsAt W (.slice ta t.args.length tc) t.args ∧ W.heap[w.heap.size]? = some (.cells #[.int .i64 t.v, .string t.fn, .slice ta t.args.length tc] 24 (0, 0)) ∧ Below w.heap.size w W) := fun A C W hT => by
        have h1 := HB1.out.2.1
        have hbw : Below w.heap.size w W := HB1.out.1.trans (hT.bel.mono (by omega))
        exact ⟨ArgsAt.keep hbw (Nat.le_refl _) H0.out.1, ArgsAt.keep hbw (Nat.le_refl _) H0.out.2.1, ArgsAt.keep hbw (Nat.le_refl _) H0.out.2.2.1, (hT.bel.block _ (by omega)).trans HB1.out.2.2, hbw⟩
      gi_wp2
      gi_loopw [9] (fun i wr => ∃ (k : Nat) (C : List (Int × T)), k ≤ m.length ∧ i = .int .i64 (k : Nat) ∧ Hid (Two W1 W1.heap.size a b [] C wr ∧ C.length ≤ k ∧ (∀ e ∈ C, ∃ j : Nat, j < k ∧ e.1 = 1000 + (j : Int)))) (fun i _ => m.length - (intOf i).toNat)
      case atStart => exact ⟨0, [], Nat.zero_le _, rfl, HT4.out, Nat.le_refl _, by simp⟩
      case round =>
        obtain ⟨k, C, hk, rfl, hi⟩ := hrel
        by_cases hlt : k < m.length
        · obtain ⟨_, hmA, _, _, _⟩ := HW.out _ _ _ hi.out.1
          obtain ⟨bb, oo, s, rfl, hbb, c0, c1, c2, hsA⟩ := hmA.nth hlt
          obtain ⟨sa, sc, rfl, _, _⟩ := hsA.slice
          obtain ⟨x, hx⟩ : ∃ x, m[k] = x := ⟨_, rfl⟩
          rw [hx] at c0 c1 c2 hsA
          obtain ⟨z, hz⟩ : ∃ z : Int, 1000 + (k : Int) = z := ⟨_, rfl⟩
          have hins := hi.out.1.insB (by have := hi.out.2.1; omega) x (.slice sa x.args.length sc) z (hx ▸ hsA) (hx ▸ H0.out.2.2.2.2.1 _ (List.getElem_mem hlt)) (by unfold Fit64; omega) (fun e he => by obtain ⟨j, h1, h2⟩ := hi.out.2.2 e he; omega)
          have hzz : IntKind.i64.wrap (1000 + (k : Int)) = z := by
            have := wrap_succ (n := 999 + k) (n1 := 1000 + k) (by omega) (by omega)
            rw [← hz]
            push_cast at this
            rw [show (1000 : Int) + k = 999 + k + 1 by omega, this]
            omega
          have HN : Hid (∀ W', Two W1 W1.heap.size a b [] (addT C z x) W' → Two W1 W1.heap.size a b [] (addT C z x) W' ∧ (addT C z x).length ≤ k + 1 ∧ (∀ e ∈ addT C z x, ∃ j : Nat, j < k + 1 ∧ e.1 = 1000 + (j : Int))) := fun W' hT => by
            refine ⟨hT, Nat.le_trans addT_len (by have := hi.out.2.1; omega), fun e he => ?_⟩
            rcases addT_mem.1 he with h1 | ⟨h1, _⟩
            · obtain ⟨j, h2, h3⟩ := hi.out.2.2 e h1; exact ⟨j, by omega, h3⟩
            · exact ⟨k, by omega, by rw [h1]; simp; omega⟩
          clear hmA hsA hz hi hx
          gi_wp2_with fail
          refine ⟨trivial, (callsIn_wide.2 hins).mono ?_⟩
          rintro e W5 ⟨⟨v, rfl⟩, hT5⟩
          have HR := hid (HN.out W5 hT5)
          clear hins hT5 c0 c1 c2 HN hzz
          gi_wp2
          refine ⟨⟨k + 1, _, by omega, by go_num, HR⟩, by simp [intOf]; omega⟩
        · have hkm : k = m.length := by omega
          obtain ⟨wa, hwa⟩ : ∃ X, X = wr := ⟨_, rfl⟩
          subst hwa
          have HJ : Hid (Two W1 W1.heap.size a b [] C wa ∧ UpTo l 0 [] ∧ Down l 0 C ∧ High 0 m.length C ∧ C.length ≤ 30) := by
            have hlow : ∀ e ∈ C, ∃ j : Nat, j < k ∧ e.1 = 1000 + (j : Int) := hi.out.2.2
            refine ⟨hi.out.1, ⟨by simp, fun e => by simp⟩, fun e he => ⟨fun h => ?_, fun ⟨j, hj, h1, _⟩ => ?_⟩, fun e he h1 => ?_, by have := hi.out.2.1; omega⟩
            · obtain ⟨j, _, h2⟩ := hlow e h; omega
            · omega
            · obtain ⟨j, h2, h3⟩ := hlow e he; exact ⟨j, Nat.zero_le _, by omega, h3⟩
          clear hi
          gi_wp2
          gi_loopw [10, 11] (fun i _ wr => ∃ (k : Nat) (A C : List (Int × T)), k ≤ l.length ∧ i = .int .i64 (k : Nat) ∧ Hid (Two W1 W1.heap.size a b A C wr ∧ UpTo l k A ∧ Down l k C ∧ High 0 m.length C ∧ C.length ≤ 30 + k)) (fun i _ _ => l.length - (intOf i).toNat)
          case atStart => exact ⟨0, [], C, Nat.zero_le _, rfl, HJ.out⟩
          case round =>
            clear HJ HT4 hlt hkm hk
            obtain ⟨k, A, C, hk, rfl, hi⟩ := hrel
            by_cases hlt : k < l.length
            · obtain ⟨n, hn⟩ : ∃ n, n + k + 1 = l.length := ⟨l.length - 1 - k, by omega⟩
              have hnl : n < l.length := by omega
              obtain ⟨hlA, _, _, _, _⟩ := HW.out _ _ _ hi.out.1
              obtain ⟨bb, oo, s, rfl, hbb, c0, c1, c2, hsA⟩ := hlA.nth hlt
              obtain ⟨sa, sc, rfl, _, _⟩ := hsA.slice
              obtain ⟨x, hx⟩ : ∃ x, l[k] = x := ⟨_, rfl⟩
              rw [hx] at c0 c1 c2 hsA
              have hins := hi.out.1.insA (by have := hi.out.2.1.1; omega) x (.slice sa x.args.length sc) (k : Int) hsA (hx ▸ H0.out.2.2.2.1 _ (List.getElem_mem hlt)) (by unfold Fit64; omega) (upTo_new hi.out.2.1)
              have HA := hid (upTo_next hi.out.2.1 hlt)
              rw [hx] at HA
              have HC : Hid (Down l k C ∧ High 0 m.length C ∧ C.length ≤ 30 + k) := hi.out.2.2
              have w1 : IntKind.i64.wrap ((l.length : Int) - 1) = (l.length : Int) - 1 := wrap_id (by omega) (by omega)
              have w2 : IntKind.i64.wrap ((l.length : Int) - 1 - (k : Int)) = (n : Int) := by rw [wrap_id (by omega) (by omega)]; omega
              obtain ⟨y, hy⟩ : ∃ y, l[n] = y := ⟨_, rfl⟩
              have HY : Hid (∀ W, Two W1 W1.heap.size a b (addT A (k : Int) x) C W → ∃ sa sc, W.cell? ⟨bb, oo + n * 3, none⟩ = some (.int .i64 y.v) ∧ W.cell? ⟨bb, oo + n * 3 + 1, none⟩ = some (.string y.fn) ∧ W.cell? ⟨bb, oo + n * 3 + 2, none⟩ = some (.slice sa y.args.length sc) ∧
                  Calls Try.prog 7 #[.pointer (some ⟨b, 0, none⟩), .int .i64 (n : Int), tval y (.slice sa y.args.length sc)] W fun e W' => (∃ v, e = .returned (.int .i64 v)) ∧ Two W1 W1.heap.size a b (addT A (k : Int) x) (addT C (n : Int) y) W') := fun W hT => by
                obtain ⟨hlA, _, _, _, _⟩ := HW.out _ _ _ hT
                obtain ⟨bb', oo', s, he, hbb, c0, c1, c2, hsA⟩ := hlA.nth hnl
                cases he
                obtain ⟨sa, sc, rfl, _, _⟩ := hsA.slice
                rw [hy] at c0 c1 c2 hsA
                exact ⟨sa, sc, c0, c1, c2, hT.insB (by have := HC.out.2.2; omega) y _ (n : Int) hsA (hy ▸ H0.out.2.2.2.1 _ (List.getElem_mem hnl)) (by unfold Fit64; omega) (down_new HC.out.1 hn (by omega))⟩
              have HE : Hid (∀ W, Two W1 W1.heap.size a b (addT A (k : Int) x) (addT C (n : Int) y) W → Two W1 W1.heap.size a b (addT A (k : Int) x) (addT C (n : Int) y) W ∧ UpTo l (k + 1) (addT A (k : Int) x) ∧ Down l (k + 1) (addT C (n : Int) y) ∧ High 0 m.length (addT C (n : Int) y) ∧ (addT C (n : Int) y).length ≤ 30 + (k + 1)) := fun W hT => by
                have h1 := down_next HC.out.1 hnl hn
                rw [hy] at h1
                exact ⟨hT, HA.out, h1, high_add HC.out.2.1 (by omega), Nat.le_trans addT_len (by have := HC.out.2.2; omega)⟩
              have hni : (n : Int) < (l.length : Int) := by omega
              clear hlA hsA hi hx hy HA HC
              gi_wp2_with fail
              refine ⟨trivial, (callsIn_wide.2 hins).mono ?_⟩
              rintro e W5 ⟨⟨v, rfl⟩, hT5⟩
              clear hins c0 c1 c2
              obtain ⟨sa2, sc2, e0, e1, e2, hins2⟩ := HY.out W5 hT5
              clear HY hT5
              gi_wp2_with fail
              refine ⟨trivial, (callsIn_wide.2 hins2).mono ?_⟩
              rintro e W6 ⟨⟨v2, rfl⟩, hT6⟩
              have HR := hid (HE.out W6 hT6)
              clear hins2 hT6 e0 e1 e2 HE w1 w2
              gi_wp2
              refine ⟨⟨k + 1, _, _, by omega, by go_num, HR⟩, by simp [intOf]; omega⟩
            · have hkl : k = l.length := by omega
              subst hkl
              obtain ⟨wa2, hwa⟩ : ∃ X, X = wr := ⟨_, rfl⟩
              subst hwa
              gi_wp2
              gi_loopw [12] (fun i wr => ∃ (k : Nat) (C : List (Int × T)), k ≤ m.length ∧ i = .int .i64 (k : Nat) ∧ Hid (Two W1 W1.heap.size a b A C wr ∧ Down l l.length C ∧ High k m.length C ∧ C.length ≤ 60)) (fun i _ => m.length - (intOf i).toNat)
              case atStart => exact ⟨0, C, Nat.zero_le _, rfl, hi.out.1, hi.out.2.2.1, hi.out.2.2.2.1, by have := hi.out.2.2.2.2; omega⟩
              case round =>
                have HU : Hid (UpTo l l.length A) := hi.out.2.1
                clear hi hlt hk
                obtain ⟨k, C, hk, rfl, hi⟩ := hrel
                by_cases hlt : k < m.length
                · obtain ⟨z, hz⟩ : ∃ z : Int, 1000 + (k : Int) = z := ⟨_, rfl⟩
                  have hzz : IntKind.i64.wrap (1000 + (k : Int)) = z := by rw [wrap_id (by omega) (by omega)]; exact hz
                  have hrem := hi.out.1.remB (by have := hi.out.2.2.2; omega) z (by unfold Fit64; omega)
                  have HE : Hid (∀ W, Two W1 W1.heap.size a b A (delT C z) W → Two W1 W1.heap.size a b A (delT C z) W ∧ Down l l.length (delT C z) ∧ High (k + 1) m.length (delT C z) ∧ (delT C z).length ≤ 60) := fun W hT => by
                    refine ⟨hT, fun e he => ?_, fun e he h1 => ?_, Nat.le_trans delT_len hi.out.2.2.2⟩
                    · rw [delT_mem, ← hi.out.2.1 e he]
                      exact ⟨fun h => h.1, fun h => ⟨h, by omega⟩⟩
                    · obtain ⟨h2, h3⟩ := delT_mem.1 he
                      obtain ⟨j, h4, h5, h6⟩ := hi.out.2.2.1 e h2 h1
                      exact ⟨j, by omega, h5, h6⟩
                  clear hi hz
                  gi_wp2_with fail
                  refine ⟨trivial, (callsIn_wide.2 hrem).mono ?_⟩
                  rintro e W5 ⟨⟨v, rfl⟩, hT5⟩
                  have HR := hid (HE.out W5 hT5)
                  clear hrem hT5 HE hzz
                  gi_wp2
                  refine ⟨⟨k + 1, _, by omega, by go_num, HR⟩, by simp [intOf]; omega⟩
                · have hsame := low_same (by omega) HU.out hi.out.2.1 hi.out.2.2.1 (by omega)
                  obtain ⟨wb, hwb⟩ : ∃ X, X = wr := ⟨_, rfl⟩
                  subst hwb
                  obtain ⟨ea, eb, Ka, Kb, hS, hA, hC⟩ := hi.out.1
                  have hks : ∀ k, k ∈ ea.map keyT ↔ k ∈ eb.map keyT := fun k => by rw [hA, hC]; exact hsame k
                  have hla : ea.length ≤ 200 := by have := HU.out.1; rw [← hA] at this; simp at this; omega
                  have hlb : eb.length ≤ 200 := by have := hi.out.2.2.2; rw [← hC] at this; simp at this; omega
                  obtain ⟨Wd, hWd⟩ : ∃ X, wb.drew = X := ⟨_, rfl⟩
                  have bd : Below wb.heap.size wb Wd := by rw [← hWd]; exact (Below.refl _ wb).drew
                  have hSd := hS.keep bd
                  have HTd : Two W1 W1.heap.size a b A C Wd := ⟨ea, eb, Ka, Kb, hSd, hA, hC⟩
                  obtain ⟨_, _, htA, zt, hbw⟩ := HW.out _ _ _ HTd
                  have hg1 := tgen hSd.sa hla t (.slice ta t.args.length tc) htA H0.out.2.2.2.2.2
                  have HG2 : Hid (∀ Z, Below Wd.heap.size Wd Z → Calls Try.prog 9 #[.pointer (some ⟨b, 0, none⟩), tval t (.slice ta t.args.length tc)] Z (TGenP eb t Z)) := fun Z hZ => tgen (hSd.keep hZ).sb hlb t _ (ArgsAt.keep hZ (Nat.le_refl _) htA) H0.out.2.2.2.2.2
                  have HCt : Hid (∀ Z, Below Wd.heap.size Wd Z → Z.cell? ⟨w.heap.size, 0, none⟩ = some (.int .i64 t.v) ∧ Z.cell? ⟨w.heap.size, 1, none⟩ = some (.string t.fn) ∧ Z.cell? ⟨w.heap.size, 2, none⟩ = some (.slice ta t.args.length tc)) := fun Z hZ => by
                    have zz := (hZ.block _ (Array.getElem?_eq_some_iff.1 zt).1).trans zt
                    exact ⟨cell_store (vs := [_, _, _]) zz rfl, cell_store (vs := [_, _, _]) zz rfl, cell_store (vs := [_, _, _]) zz rfl⟩
                  obtain ⟨d0, d1, d2⟩ := HCt.out Wd (Below.refl _ _)
                  have HFin : Hid (∀ v1 v2 W5 W6, TGenP ea t Wd (.returned v1) W5 → TGenP eb t W5 (.returned v2) W6 → Told2 W1 W1.heap.size a b v1 v2 W6) := fun v1 v2 W5 W6 g1 g2 => told_two hSd hla hks g1 g2
                  clear hi hsame hS hA hC hks hSd HTd htA zt hbw bd hla hlb
                  gi_upto_region 18 with fail
                  gi_cut [13, 14] from 98 (fun v1 v2 wx => Told2 W1 W1.heap.size a b v1 v2 wx)
                  case first =>
                    refine wpIn_region_any (by kernel_rfl) ?_
                    try (change wpAnyIn _ _ _ _ _ _ _ _ _ (World.drew _))
                    rw [hWd]
                    refine wpAnyIn_take (i := 0) (v := .pointer (some ⟨a, 0, none⟩)) rfl rfl (by kernel_rfl) (by kernel_rfl) (by kernel_rfl) (fun _ _ _ h => h) ⟨Or.inl ⟨by rfl, fun Z => by go_simp⟩, fun _ => rfl⟩ ?_
                    try simp only [Act.put, List.setIfInBounds_toArray]
                    refine wpAnyIn_take (i := 3) (v := .pointer (some ⟨b, 0, none⟩)) rfl rfl (by kernel_rfl) (by kernel_rfl) (by kernel_rfl) (fun _ _ _ h => h) ⟨Or.inl ⟨by rfl, fun Z => by go_simp⟩, fun _ => rfl⟩ ?_
                    try simp only [Act.put]
                    refine wpAnyIn_ready (rs := [1, 4]) (by kernel_rfl) (by simp) ?_
                    refine AllReadyIn.cons rfl (fun K hK => ?_) ?_
                    · go_simp
                      refine hK _ _ ?_
                      clear hK K
                      try simp only [Act.put, List.setIfInBounds_toArray, List.set_cons_zero, List.set_cons_succ]
                      refine wpAnyIn_ready (rs := [2, 4]) (by kernel_rfl) (by simp) ?_
                      refine AllReadyIn.cons rfl (fun K hK => ?_) ?_
                      · go_simp
                        refine ⟨trivial, (callsIn_wide.2 hg1).mono ?_⟩
                        rintro e W5 hP1
                        have hP1' := hP1
                        obtain ⟨v1, hs1, rfl, hr1, _, hb5, _⟩ := hP1'
                        obtain ⟨a1, c1, rfl⟩ := rowB_form hr1
                        obtain ⟨f0, f1, f2⟩ := HCt.out W5 hb5
                        refine hK _ _ ?_
                        clear hK K
                        try simp only [Act.put, List.setIfInBounds_toArray, List.set_cons_zero, List.set_cons_succ]
                        refine wpAnyIn_ready (rs := [4]) (by kernel_rfl) (by simp) ?_
                        refine AllReadyIn.cons rfl (fun K hK => ?_) AllReadyIn.nil
                        go_simp
                        refine hK _ _ ?_
                        clear hK K
                        try simp only [Act.put, List.setIfInBounds_toArray, List.set_cons_zero, List.set_cons_succ]
                        refine wpAnyIn_ready (rs := [5]) (by kernel_rfl) (by simp) ?_
                        refine AllReadyIn.cons rfl (fun K hK => ?_) AllReadyIn.nil
                        go_simp
                        refine ⟨trivial, (callsIn_wide.2 (HG2.out W5 hb5)).mono ?_⟩
                        rintro e W6 hP2
                        have hP2' := hP2
                        obtain ⟨v2, hs2, rfl, hr2, _, hb6, _⟩ := hP2'
                        obtain ⟨a2, c2, rfl⟩ := rowB_form hr2
                        refine hK _ _ ?_
                        clear hK K
                        try simp only [Act.put, List.setIfInBounds_toArray, List.set_cons_zero, List.set_cons_succ]
                        refine wpAnyIn_take (i := 6) (v := .slice a1 hs1.length c1) rfl rfl (by kernel_rfl) (by kernel_rfl) (by kernel_rfl) (fun _ _ _ h => h) ⟨Or.inl ⟨by rfl, fun Z => by go_simp⟩, fun _ => rfl⟩ ?_
                        try simp only [Act.put, List.setIfInBounds_toArray]
                        refine wpAnyIn_take (i := 7) (v := .slice a2 hs2.length c2) rfl rfl (by kernel_rfl) (by kernel_rfl) (by kernel_rfl) (fun _ _ _ h => h) ⟨Or.inl ⟨by rfl, fun Z => by go_simp⟩, fun _ => rfl⟩ ?_
                        try simp only [Act.put]
                        refine wpAnyIn_done (by kernel_rfl) ?_ _
                        gi_wp2
                        gi_meet
                        exact HFin.out _ _ W5 W6 hP1 hP2
                      refine AllReadyIn.cons rfl (fun K hK => ?_) AllReadyIn.nil
                      go_simp
                      refine hK _ _ ?_
                      clear hK K
                      try simp only [Act.put, List.setIfInBounds_toArray, List.set_cons_zero, List.set_cons_succ]
                      refine wpAnyIn_ready (rs := [2]) (by kernel_rfl) (by simp) ?_
                      refine AllReadyIn.cons rfl (fun K hK => ?_) AllReadyIn.nil
                      go_simp
                      refine ⟨trivial, (callsIn_wide.2 hg1).mono ?_⟩
                      rintro e W5 hP1
                      have hP1' := hP1
                      obtain ⟨v1, hs1, rfl, hr1, _, hb5, _⟩ := hP1'
                      obtain ⟨a1, c1, rfl⟩ := rowB_form hr1
                      obtain ⟨f0, f1, f2⟩ := HCt.out W5 hb5
                      refine hK _ _ ?_
                      clear hK K
                      try simp only [Act.put, List.setIfInBounds_toArray, List.set_cons_zero, List.set_cons_succ]
                      refine wpAnyIn_ready (rs := [5]) (by kernel_rfl) (by simp) ?_
                      refine AllReadyIn.cons rfl (fun K hK => ?_) AllReadyIn.nil
                      go_simp
                      refine ⟨trivial, (callsIn_wide.2 (HG2.out W5 hb5)).mono ?_⟩
                      rintro e W6 hP2
                      have hP2' := hP2
                      obtain ⟨v2, hs2, rfl, hr2, _, hb6, _⟩ := hP2'
                      obtain ⟨a2, c2, rfl⟩ := rowB_form hr2
                      refine hK _ _ ?_
                      clear hK K
                      try simp only [Act.put, List.setIfInBounds_toArray, List.set_cons_zero, List.set_cons_succ]
                      refine wpAnyIn_take (i := 6) (v := .slice a1 hs1.length c1) rfl rfl (by kernel_rfl) (by kernel_rfl) (by kernel_rfl) (fun _ _ _ h => h) ⟨Or.inl ⟨by rfl, fun Z => by go_simp⟩, fun _ => rfl⟩ ?_
                      try simp only [Act.put, List.setIfInBounds_toArray]
                      refine wpAnyIn_take (i := 7) (v := .slice a2 hs2.length c2) rfl rfl (by kernel_rfl) (by kernel_rfl) (by kernel_rfl) (fun _ _ _ h => h) ⟨Or.inl ⟨by rfl, fun Z => by go_simp⟩, fun _ => rfl⟩ ?_
                      try simp only [Act.put]
                      refine wpAnyIn_done (by kernel_rfl) ?_ _
                      gi_wp2
                      gi_meet
                      exact HFin.out _ _ W5 W6 hP1 hP2
                    refine AllReadyIn.cons rfl (fun K hK => ?_) AllReadyIn.nil
                    go_simp
                    refine hK _ _ ?_
                    clear hK K
                    try simp only [Act.put, List.setIfInBounds_toArray, List.set_cons_zero, List.set_cons_succ]
                    refine wpAnyIn_ready (rs := [1]) (by kernel_rfl) (by simp) ?_
                    refine AllReadyIn.cons rfl (fun K hK => ?_) AllReadyIn.nil
                    go_simp
                    refine hK _ _ ?_
                    clear hK K
                    try simp only [Act.put, List.setIfInBounds_toArray, List.set_cons_zero, List.set_cons_succ]
                    refine wpAnyIn_ready (rs := [2]) (by kernel_rfl) (by simp) ?_
                    refine AllReadyIn.cons rfl (fun K hK => ?_) AllReadyIn.nil
                    go_simp
                    refine ⟨trivial, (callsIn_wide.2 hg1).mono ?_⟩
                    rintro e W5 hP1
                    have hP1' := hP1
                    obtain ⟨v1, hs1, rfl, hr1, _, hb5, _⟩ := hP1'
                    obtain ⟨a1, c1, rfl⟩ := rowB_form hr1
                    obtain ⟨f0, f1, f2⟩ := HCt.out W5 hb5
                    refine hK _ _ ?_
                    clear hK K
                    try simp only [Act.put, List.setIfInBounds_toArray, List.set_cons_zero, List.set_cons_succ]
                    refine wpAnyIn_ready (rs := [5]) (by kernel_rfl) (by simp) ?_
                    refine AllReadyIn.cons rfl (fun K hK => ?_) AllReadyIn.nil
                    go_simp
                    refine ⟨trivial, (callsIn_wide.2 (HG2.out W5 hb5)).mono ?_⟩
                    rintro e W6 hP2
                    have hP2' := hP2
                    obtain ⟨v2, hs2, rfl, hr2, _, hb6, _⟩ := hP2'
                    obtain ⟨a2, c2, rfl⟩ := rowB_form hr2
                    refine hK _ _ ?_
                    clear hK K
                    try simp only [Act.put, List.setIfInBounds_toArray, List.set_cons_zero, List.set_cons_succ]
                    refine wpAnyIn_take (i := 6) (v := .slice a1 hs1.length c1) rfl rfl (by kernel_rfl) (by kernel_rfl) (by kernel_rfl) (fun _ _ _ h => h) ⟨Or.inl ⟨by rfl, fun Z => by go_simp⟩, fun _ => rfl⟩ ?_
                    try simp only [Act.put, List.setIfInBounds_toArray]
                    refine wpAnyIn_take (i := 7) (v := .slice a2 hs2.length c2) rfl rfl (by kernel_rfl) (by kernel_rfl) (by kernel_rfl) (fun _ _ _ h => h) ⟨Or.inl ⟨by rfl, fun Z => by go_simp⟩, fun _ => rfl⟩ ?_
                    try simp only [Act.put]
                    refine wpAnyIn_done (by kernel_rfl) ?_ _
                    gi_wp2
                    gi_meet
                    exact HFin.out _ _ W5 W6 hP1 hP2
                  case rest =>
                    obtain ⟨ea, eb, Ka, Kb, n, hS, hks, hR, hn⟩ := hcut
                    obtain ⟨a1, c1, a2, c2, rfl, rfl⟩ := hR.forms
                    obtain ⟨m1, hc1, hN1⟩ := tnodes hS.sa
                    obtain ⟨m2, hc2, hN2⟩ := tnodes hS.sb
                    rw [← cnt_same hks hc1 hc2] at hN2
                    have hL1 := tlen hS.sa
                    have hL2 := tlen hS.sb
                    rw [← len_same hS.sa.ids hS.sb.ids hks] at hL2
                    obtain ⟨q, hq⟩ : ∃ q, ea.length = q := ⟨_, rfl⟩
                    rw [hq] at hL1 hL2
                    have HRw : Hid (Row2 (.slice a1 n c1) (.slice a2 n c2) n wc ∧ Below w.heap.size w wc) := ⟨hR, HB1.out.1.trans (hS.bel.mono (by have := HB1.out.2.1; omega))⟩
                    clear hS hks hR hc1 hc2 hq
                    gi_wp2_with fail
                    refine ⟨trivial, (callsIn_wide.2 hN1).mono ?_⟩
                    rintro e w' ⟨rfl, hw'⟩
                    rw [hw']
                    clear hw' hN1
                    gi_wp2_with fail
                    refine ⟨trivial, (callsIn_wide.2 hN2).mono ?_⟩
                    rintro e w' ⟨rfl, hw'⟩
                    rw [hw']
                    clear hw' hN2
                    gi_wp2_with fail
                    refine ⟨trivial, (callsIn_wide.2 hL1).mono ?_⟩
                    rintro e w' ⟨rfl, hw'⟩
                    rw [hw']
                    clear hw' hL1
                    gi_wp2_with fail
                    refine ⟨trivial, (callsIn_wide.2 hL2).mono ?_⟩
                    rintro e w' ⟨rfl, hw'⟩
                    rw [hw']
                    clear hw' hL2
                    gi_wp2
                    gi_loopw [15] (fun i wr => ∃ k : Nat, k ≤ n ∧ i = .int .i64 (k : Nat) ∧ Hid (Row2 (.slice a1 n c1) (.slice a2 n c2) n wr ∧ Below w.heap.size w wr)) (fun i _ => n - (intOf i).toNat)
                    case atStart => exact ⟨0, Nat.zero_le _, rfl, HRw.out⟩
                    case round =>
                      clear hlt hk
                      obtain ⟨k, hk, rfl, hi⟩ := hrel
                      by_cases hlt : k < n
                      · obtain ⟨Wd2, hWd⟩ : ∃ X, wr.drew = X := ⟨_, rfl⟩
                        have bd : Below wr.heap.size wr Wd2 := by rw [← hWd]; exact (Below.refl _ wr).drew
                        obtain ⟨g1, g2, z, x1, m1, y1, x2, m2, y2, bs, rfl, rfl, p1, p2, p3, p4, c3, c4, c5, c6, hb1, hb2⟩ := (hi.out.1.keep bd).nth hlt
                        have hbin := binds_same bs _ _ Wd2 hb1 hb2
                        have HK : Hid (∀ W5, Below Wd2.heap.size Wd2 W5 → Row2 (.slice (some ⟨g1, 0, none⟩) n c1) (.slice (some ⟨g2, 0, none⟩) n c2) n W5 ∧ Below w.heap.size w W5) := fun W5 hb5 => ⟨(hi.out.1.keep bd).keep hb5, (hi.out.2.trans (bd.mono hi.out.2.size)).trans (hb5.mono (Nat.le_trans hi.out.2.size bd.size))⟩
                        have hki : (k : Int) < (n : Int) := by omega
                        have hk0 : (0 : Int) ≤ (k : Int) := Int.natCast_nonneg k
                        clear hi hb1 hb2 bd HRw
                        gi_upto_region 24 with fail
                        refine wpIn_region_any (by kernel_rfl) ?_
                        try (change wpAnyIn _ _ _ _ _ _ _ _ _ (World.drew _))
                        rw [hWd]
                        refine wpAnyIn_take (i := 0) (v := .slice (some ⟨g1, 0, none⟩) n c1) rfl rfl (by kernel_rfl) (by kernel_rfl) (by kernel_rfl) (fun _ _ _ h => h) ⟨Or.inl ⟨by rfl, fun Z => by go_simp⟩, fun _ => rfl⟩ ?_
                        try simp only [Act.put, List.setIfInBounds_toArray]
                        refine wpAnyIn_take (i := 1) (v := .int .i64 (k : Nat)) rfl rfl (by kernel_rfl) (by kernel_rfl) (by kernel_rfl) (fun _ _ _ h => h) ⟨Or.inl ⟨by rfl, fun Z => by go_simp⟩, fun _ => rfl⟩ ?_
                        try simp only [Act.put]
                        refine wpAnyIn_take (i := 2) (v := .pointer (some ⟨g1, k * 2, none⟩)) rfl rfl (by kernel_rfl) (by kernel_rfl) (by kernel_rfl) (fun _ _ _ h => h) ⟨Or.inl ⟨by rfl, fun Z => by go_simp⟩, fun _ => rfl⟩ ?_
                        try simp only [Act.put]
                        refine wpAnyIn_take (i := 3) (v := .pointer (some ⟨g1, k * 2, none⟩)) rfl rfl (by kernel_rfl) (by kernel_rfl) (by kernel_rfl) (fun _ _ _ h => h) ⟨Or.inl ⟨by rfl, fun Z => by go_simp⟩, fun _ => rfl⟩ ?_
                        try simp only [Act.put]
                        refine wpAnyIn_take (i := 5) (v := .slice (some ⟨g2, 0, none⟩) n c2) rfl rfl (by kernel_rfl) (by kernel_rfl) (by kernel_rfl) (fun _ _ _ h => h) ⟨Or.inl ⟨by rfl, fun Z => by go_simp⟩, fun _ => rfl⟩ ?_
                        try simp only [Act.put]
                        refine wpAnyIn_take (i := 6) (v := .int .i64 (k : Nat)) rfl rfl (by kernel_rfl) (by kernel_rfl) (by kernel_rfl) (fun _ _ _ h => h) ⟨Or.inl ⟨by rfl, fun Z => by go_simp⟩, fun _ => rfl⟩ ?_
                        try simp only [Act.put]
                        refine wpAnyIn_take (i := 7) (v := .pointer (some ⟨g2, k * 2, none⟩)) rfl rfl (by kernel_rfl) (by kernel_rfl) (by kernel_rfl) (fun _ _ _ h => h) ⟨Or.inl ⟨by rfl, fun Z => by go_simp⟩, fun _ => rfl⟩ ?_
                        try simp only [Act.put]
                        refine wpAnyIn_take (i := 8) (v := .pointer (some ⟨g2, k * 2, none⟩)) rfl rfl (by kernel_rfl) (by kernel_rfl) (by kernel_rfl) (fun _ _ _ h => h) ⟨Or.inl ⟨by rfl, fun Z => by go_simp⟩, fun _ => rfl⟩ ?_
                        try simp only [Act.put]
                        refine wpAnyIn_ready (rs := [4, 9]) (by kernel_rfl) (by simp) ?_
                        refine AllReadyIn.cons rfl (fun K hK => ?_) ?_
                        · go_simp
                          refine hK _ _ ?_
                          clear hK K
                          try simp only [Act.put, List.setIfInBounds_toArray, List.set_cons_zero, List.set_cons_succ]
                          refine wpAnyIn_ready (rs := [9]) (by kernel_rfl) (by simp) ?_
                          refine AllReadyIn.cons rfl (fun K hK => ?_) AllReadyIn.nil
                          go_simp
                          refine hK _ _ ?_
                          clear hK K
                          try simp only [Act.put, List.setIfInBounds_toArray, List.set_cons_zero, List.set_cons_succ]
                          refine wpAnyIn_take (i := 10) (v := .bool false) rfl rfl (by kernel_rfl) (by kernel_rfl) (by kernel_rfl) (fun _ _ _ h => h) ⟨Or.inl ⟨by rfl, fun Z => by go_simp⟩, fun _ => rfl⟩ ?_
                          try simp only [Act.put, List.setIfInBounds_toArray]
                          refine wpAnyIn_take (i := 11) (v := .bool false) rfl rfl (by kernel_rfl) (by kernel_rfl) (by kernel_rfl) (fun _ _ _ h => h) ⟨Or.inl ⟨by rfl, fun Z => by go_simp⟩, fun _ => rfl⟩ ?_
                          try simp only [Act.put]
                          refine wpAnyIn_take (i := 12) (v := .slice (some ⟨g1, 0, none⟩) n c1) rfl rfl (by kernel_rfl) (by kernel_rfl) (by kernel_rfl) (fun _ _ _ h => h) ⟨Or.inl ⟨by kernel_rfl, fun Z => by go_simp⟩, fun _ => rfl⟩ ?_
                          try simp only [Act.put]
                          refine wpAnyIn_take (i := 13) (v := .int .i64 (k : Nat)) rfl rfl (by kernel_rfl) (by kernel_rfl) (by kernel_rfl) (fun _ _ _ h => h) ⟨Or.inl ⟨by kernel_rfl, fun Z => by go_simp⟩, fun _ => rfl⟩ ?_
                          try simp only [Act.put]
                          refine wpAnyIn_take (i := 14) (v := .pointer (some ⟨g1, k * 2, none⟩)) rfl rfl (by kernel_rfl) (by kernel_rfl) (by kernel_rfl) (fun _ _ _ h => h) ⟨Or.inl ⟨by kernel_rfl, fun Z => by go_simp⟩, fun _ => rfl⟩ ?_
                          try simp only [Act.put]
                          refine wpAnyIn_take (i := 15) (v := .pointer (some ⟨g1, k * 2 + 1, none⟩)) rfl rfl (by kernel_rfl) (by kernel_rfl) (by kernel_rfl) (fun _ _ _ h => h) ⟨Or.inl ⟨by kernel_rfl, fun Z => by go_simp⟩, fun _ => rfl⟩ ?_
                          try simp only [Act.put]
                          refine wpAnyIn_take (i := 17) (v := .slice (some ⟨g2, 0, none⟩) n c2) rfl rfl (by kernel_rfl) (by kernel_rfl) (by kernel_rfl) (fun _ _ _ h => h) ⟨Or.inl ⟨by kernel_rfl, fun Z => by go_simp⟩, fun _ => rfl⟩ ?_
                          try simp only [Act.put]
                          refine wpAnyIn_take (i := 18) (v := .int .i64 (k : Nat)) rfl rfl (by kernel_rfl) (by kernel_rfl) (by kernel_rfl) (fun _ _ _ h => h) ⟨Or.inl ⟨by kernel_rfl, fun Z => by go_simp⟩, fun _ => rfl⟩ ?_
                          try simp only [Act.put]
                          refine wpAnyIn_take (i := 19) (v := .pointer (some ⟨g2, k * 2, none⟩)) rfl rfl (by kernel_rfl) (by kernel_rfl) (by kernel_rfl) (fun _ _ _ h => h) ⟨Or.inl ⟨by kernel_rfl, fun Z => by go_simp⟩, fun _ => rfl⟩ ?_
                          try simp only [Act.put]
                          refine wpAnyIn_take (i := 20) (v := .pointer (some ⟨g2, k * 2 + 1, none⟩)) rfl rfl (by kernel_rfl) (by kernel_rfl) (by kernel_rfl) (fun _ _ _ h => h) ⟨Or.inl ⟨by kernel_rfl, fun Z => by go_simp⟩, fun _ => rfl⟩ ?_
                          try simp only [Act.put]
                          refine wpAnyIn_ready (rs := [16, 21]) (by kernel_rfl) (by simp) ?_
                          refine AllReadyIn.cons rfl (fun K hK => ?_) ?_
                          · go_simp
                            refine hK _ _ ?_
                            clear hK K
                            try simp only [Act.put, List.setIfInBounds_toArray, List.set_cons_zero, List.set_cons_succ]
                            refine wpAnyIn_ready (rs := [21]) (by kernel_rfl) (by simp) ?_
                            refine AllReadyIn.cons rfl (fun K hK => ?_) AllReadyIn.nil
                            go_simp
                            refine hK _ _ ?_
                            clear hK K
                            try simp only [Act.put, List.setIfInBounds_toArray, List.set_cons_zero, List.set_cons_succ]
                            refine wpAnyIn_ready (rs := [22]) (by kernel_rfl) (by simp) ?_
                            refine AllReadyIn.cons rfl (fun K hK => ?_) AllReadyIn.nil
                            go_simp
                            refine ⟨trivial, (callsIn_wide.2 hbin).mono ?_⟩
                            rintro e W5 ⟨rfl, hb5⟩
                            refine hK _ _ ?_
                            clear hK K
                            try simp only [Act.put, List.setIfInBounds_toArray, List.set_cons_zero, List.set_cons_succ]
                            refine wpAnyIn_take (i := 23) (v := .bool false) rfl rfl (by kernel_rfl) (by kernel_rfl) (by kernel_rfl) (fun _ _ _ h => h) ⟨Or.inl ⟨by kernel_rfl, fun Z => by go_simp⟩, fun _ => rfl⟩ ?_
                            try simp only [Act.put, List.setIfInBounds_toArray]
                            refine wpAnyIn_take (i := 24) (v := .bool false) rfl rfl (by kernel_rfl) (by kernel_rfl) (by kernel_rfl) (fun _ _ _ h => h) ⟨Or.inl ⟨by kernel_rfl, fun Z => by go_simp⟩, fun _ => rfl⟩ ?_
                            try simp only [Act.put]
                            refine wpAnyIn_done (by kernel_rfl) ?_ _
                            have HR := hid (HK.out W5 hb5)
                            gi_wp2
                            refine ⟨⟨k + 1, by omega, by go_num, HR⟩, by simp [intOf]; omega⟩
                          refine AllReadyIn.cons rfl (fun K hK => ?_) AllReadyIn.nil
                          go_simp
                          refine hK _ _ ?_
                          clear hK K
                          try simp only [Act.put, List.setIfInBounds_toArray, List.set_cons_zero, List.set_cons_succ]
                          refine wpAnyIn_ready (rs := [16]) (by kernel_rfl) (by simp) ?_
                          refine AllReadyIn.cons rfl (fun K hK => ?_) AllReadyIn.nil
                          go_simp
                          refine hK _ _ ?_
                          clear hK K
                          try simp only [Act.put, List.setIfInBounds_toArray, List.set_cons_zero, List.set_cons_succ]
                          refine wpAnyIn_ready (rs := [22]) (by kernel_rfl) (by simp) ?_
                          refine AllReadyIn.cons rfl (fun K hK => ?_) AllReadyIn.nil
                          go_simp
                          refine ⟨trivial, (callsIn_wide.2 hbin).mono ?_⟩
                          rintro e W5 ⟨rfl, hb5⟩
                          refine hK _ _ ?_
                          clear hK K
                          try simp only [Act.put, List.setIfInBounds_toArray, List.set_cons_zero, List.set_cons_succ]
                          refine wpAnyIn_take (i := 23) (v := .bool false) rfl rfl (by kernel_rfl) (by kernel_rfl) (by kernel_rfl) (fun _ _ _ h => h) ⟨Or.inl ⟨by kernel_rfl, fun Z => by go_simp⟩, fun _ => rfl⟩ ?_
                          try simp only [Act.put, List.setIfInBounds_toArray]
                          refine wpAnyIn_take (i := 24) (v := .bool false) rfl rfl (by kernel_rfl) (by kernel_rfl) (by kernel_rfl) (fun _ _ _ h => h) ⟨Or.inl ⟨by kernel_rfl, fun Z => by go_simp⟩, fun _ => rfl⟩ ?_
                          try simp only [Act.put]
                          refine wpAnyIn_done (by kernel_rfl) ?_ _
                          have HR := hid (HK.out W5 hb5)
                          gi_wp2
                          refine ⟨⟨k + 1, by omega, by go_num, HR⟩, by simp [intOf]; omega⟩
                        refine AllReadyIn.cons rfl (fun K hK => ?_) AllReadyIn.nil
                        go_simp
                        refine hK _ _ ?_
                        clear hK K
                        try simp only [Act.put, List.setIfInBounds_toArray, List.set_cons_zero, List.set_cons_succ]
                        refine wpAnyIn_ready (rs := [4]) (by kernel_rfl) (by simp) ?_
                        refine AllReadyIn.cons rfl (fun K hK => ?_) AllReadyIn.nil
                        go_simp
                        refine hK _ _ ?_
                        clear hK K
                        try simp only [Act.put, List.setIfInBounds_toArray, List.set_cons_zero, List.set_cons_succ]
                        refine wpAnyIn_take (i := 10) (v := .bool false) rfl rfl (by kernel_rfl) (by kernel_rfl) (by kernel_rfl) (fun _ _ _ h => h) ⟨Or.inl ⟨by rfl, fun Z => by go_simp⟩, fun _ => rfl⟩ ?_
                        try simp only [Act.put, List.setIfInBounds_toArray]
                        refine wpAnyIn_take (i := 11) (v := .bool false) rfl rfl (by kernel_rfl) (by kernel_rfl) (by kernel_rfl) (fun _ _ _ h => h) ⟨Or.inl ⟨by rfl, fun Z => by go_simp⟩, fun _ => rfl⟩ ?_
                        try simp only [Act.put]
                        refine wpAnyIn_take (i := 12) (v := .slice (some ⟨g1, 0, none⟩) n c1) rfl rfl (by kernel_rfl) (by kernel_rfl) (by kernel_rfl) (fun _ _ _ h => h) ⟨Or.inl ⟨by kernel_rfl, fun Z => by go_simp⟩, fun _ => rfl⟩ ?_
                        try simp only [Act.put]
                        refine wpAnyIn_take (i := 13) (v := .int .i64 (k : Nat)) rfl rfl (by kernel_rfl) (by kernel_rfl) (by kernel_rfl) (fun _ _ _ h => h) ⟨Or.inl ⟨by kernel_rfl, fun Z => by go_simp⟩, fun _ => rfl⟩ ?_
                        try simp only [Act.put]
                        refine wpAnyIn_take (i := 14) (v := .pointer (some ⟨g1, k * 2, none⟩)) rfl rfl (by kernel_rfl) (by kernel_rfl) (by kernel_rfl) (fun _ _ _ h => h) ⟨Or.inl ⟨by kernel_rfl, fun Z => by go_simp⟩, fun _ => rfl⟩ ?_
                        try simp only [Act.put]
                        refine wpAnyIn_take (i := 15) (v := .pointer (some ⟨g1, k * 2 + 1, none⟩)) rfl rfl (by kernel_rfl) (by kernel_rfl) (by kernel_rfl) (fun _ _ _ h => h) ⟨Or.inl ⟨by kernel_rfl, fun Z => by go_simp⟩, fun _ => rfl⟩ ?_
                        try simp only [Act.put]
                        refine wpAnyIn_take (i := 17) (v := .slice (some ⟨g2, 0, none⟩) n c2) rfl rfl (by kernel_rfl) (by kernel_rfl) (by kernel_rfl) (fun _ _ _ h => h) ⟨Or.inl ⟨by kernel_rfl, fun Z => by go_simp⟩, fun _ => rfl⟩ ?_
                        try simp only [Act.put]
                        refine wpAnyIn_take (i := 18) (v := .int .i64 (k : Nat)) rfl rfl (by kernel_rfl) (by kernel_rfl) (by kernel_rfl) (fun _ _ _ h => h) ⟨Or.inl ⟨by kernel_rfl, fun Z => by go_simp⟩, fun _ => rfl⟩ ?_
                        try simp only [Act.put]
                        refine wpAnyIn_take (i := 19) (v := .pointer (some ⟨g2, k * 2, none⟩)) rfl rfl (by kernel_rfl) (by kernel_rfl) (by kernel_rfl) (fun _ _ _ h => h) ⟨Or.inl ⟨by kernel_rfl, fun Z => by go_simp⟩, fun _ => rfl⟩ ?_
                        try simp only [Act.put]
                        refine wpAnyIn_take (i := 20) (v := .pointer (some ⟨g2, k * 2 + 1, none⟩)) rfl rfl (by kernel_rfl) (by kernel_rfl) (by kernel_rfl) (fun _ _ _ h => h) ⟨Or.inl ⟨by kernel_rfl, fun Z => by go_simp⟩, fun _ => rfl⟩ ?_
                        try simp only [Act.put]
                        refine wpAnyIn_ready (rs := [16, 21]) (by kernel_rfl) (by simp) ?_
                        refine AllReadyIn.cons rfl (fun K hK => ?_) ?_
                        · go_simp
                          refine hK _ _ ?_
                          clear hK K
                          try simp only [Act.put, List.setIfInBounds_toArray, List.set_cons_zero, List.set_cons_succ]
                          refine wpAnyIn_ready (rs := [21]) (by kernel_rfl) (by simp) ?_
                          refine AllReadyIn.cons rfl (fun K hK => ?_) AllReadyIn.nil
                          go_simp
                          refine hK _ _ ?_
                          clear hK K
                          try simp only [Act.put, List.setIfInBounds_toArray, List.set_cons_zero, List.set_cons_succ]
                          refine wpAnyIn_ready (rs := [22]) (by kernel_rfl) (by simp) ?_
                          refine AllReadyIn.cons rfl (fun K hK => ?_) AllReadyIn.nil
                          go_simp
                          refine ⟨trivial, (callsIn_wide.2 hbin).mono ?_⟩
                          rintro e W5 ⟨rfl, hb5⟩
                          refine hK _ _ ?_
                          clear hK K
                          try simp only [Act.put, List.setIfInBounds_toArray, List.set_cons_zero, List.set_cons_succ]
                          refine wpAnyIn_take (i := 23) (v := .bool false) rfl rfl (by kernel_rfl) (by kernel_rfl) (by kernel_rfl) (fun _ _ _ h => h) ⟨Or.inl ⟨by kernel_rfl, fun Z => by go_simp⟩, fun _ => rfl⟩ ?_
                          try simp only [Act.put, List.setIfInBounds_toArray]
                          refine wpAnyIn_take (i := 24) (v := .bool false) rfl rfl (by kernel_rfl) (by kernel_rfl) (by kernel_rfl) (fun _ _ _ h => h) ⟨Or.inl ⟨by kernel_rfl, fun Z => by go_simp⟩, fun _ => rfl⟩ ?_
                          try simp only [Act.put]
                          refine wpAnyIn_done (by kernel_rfl) ?_ _
                          have HR := hid (HK.out W5 hb5)
                          gi_wp2
                          refine ⟨⟨k + 1, by omega, by go_num, HR⟩, by simp [intOf]; omega⟩
                        refine AllReadyIn.cons rfl (fun K hK => ?_) AllReadyIn.nil
                        go_simp
                        refine hK _ _ ?_
                        clear hK K
                        try simp only [Act.put, List.setIfInBounds_toArray, List.set_cons_zero, List.set_cons_succ]
                        refine wpAnyIn_ready (rs := [16]) (by kernel_rfl) (by simp) ?_
                        refine AllReadyIn.cons rfl (fun K hK => ?_) AllReadyIn.nil
                        go_simp
                        refine hK _ _ ?_
                        clear hK K
                        try simp only [Act.put, List.setIfInBounds_toArray, List.set_cons_zero, List.set_cons_succ]
                        refine wpAnyIn_ready (rs := [22]) (by kernel_rfl) (by simp) ?_
                        refine AllReadyIn.cons rfl (fun K hK => ?_) AllReadyIn.nil
                        go_simp
                        refine ⟨trivial, (callsIn_wide.2 hbin).mono ?_⟩
                        rintro e W5 ⟨rfl, hb5⟩
                        refine hK _ _ ?_
                        clear hK K
                        try simp only [Act.put, List.setIfInBounds_toArray, List.set_cons_zero, List.set_cons_succ]
                        refine wpAnyIn_take (i := 23) (v := .bool false) rfl rfl (by kernel_rfl) (by kernel_rfl) (by kernel_rfl) (fun _ _ _ h => h) ⟨Or.inl ⟨by kernel_rfl, fun Z => by go_simp⟩, fun _ => rfl⟩ ?_
                        try simp only [Act.put, List.setIfInBounds_toArray]
                        refine wpAnyIn_take (i := 24) (v := .bool false) rfl rfl (by kernel_rfl) (by kernel_rfl) (by kernel_rfl) (fun _ _ _ h => h) ⟨Or.inl ⟨by kernel_rfl, fun Z => by go_simp⟩, fun _ => rfl⟩ ?_
                        try simp only [Act.put]
                        refine wpAnyIn_done (by kernel_rfl) ?_ _
                        have HR := hid (HK.out W5 hb5)
                        gi_wp2
                        refine ⟨⟨k + 1, by omega, by go_num, HR⟩, by simp [intOf]; omega⟩
                      · gi_wp2
                        go_ret
                        exact ⟨rfl, hi.out.2⟩

end Go.Proofs.Ytijihmncbaoklaa
