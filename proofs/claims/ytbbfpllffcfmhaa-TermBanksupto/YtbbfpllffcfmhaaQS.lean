/-
  The document's Make.
-/
import Derived.Test.YtbbfpllffcfmhaaQR
namespace Go.Proofs.Ytbbfpllffcfmhaa
open Go.RowKit Go.Maps
open Fq (DMk LeastN)

theorem wpList_append_run {w : World} {ops : Array Oper} {rest : List Oper} {o : Oper} {a : Act} {Q : Exit → Act → World → Prop} (hgd : o.guard = none) (s x : Operand) (t : TypeId)
    (ho : o.op = .call { callee := .builtin .append, args := #[s, x], argTypes := #[t, t] }) (v u v' : Value) (w' : World) (hs : a.eval s = v) (hx : a.eval x = u) (hr : (Builtin.append_ #[t, t] o.type #[v, u]).run Try.prog w = .ok v' w') (h : wpList Try.prog ops Q rest (a.put o.dst v') w') :
    wpList Try.prog ops Q (o :: rest) a w := by
  refine wpList_plain hgd fun K hK => ?_
  unfold Oper.wp execOp
  simp only [ho, resolve, invoke, builtin, Sem.run_bind, Sem.run_pure, Result.andThen_ok, List.map_toArray, List.map_cons, List.map_nil, hs, hx, hr]
  exact hK _ _ h

theorem run_append_rows5 (w : World) (base b2 : Nat) (ty : TypeId) (v x : Value) (n m : Nat) (xs news : List Value) (h1 : w.ownsRow base 89 5 v n xs) (h2 : w.ownsRow b2 89 5 x m news) (hnews : ∀ u ∈ news, u.oneCell' = true) (hn : n + m ≤ 2097152) (hb : base ≤ w.heap.size) :
    ∃ v' w', (Builtin.append_ #[53, 53] ty #[v, x]).run Try.prog w = .ok v' w' ∧ w'.ownsRow base 89 5 v' (n + m) (xs ++ news) ∧ w.grownBy w' v.ownBlock ∧ (v'.ownBlock = v.ownBlock ∨ v'.ownBlock = some w.heap.size) := by
  obtain ⟨i0, hi, hz0, hz1, hz2⟩ := info_parts Try.info89
  have hl := h2.1
  rcases h2.2 with ⟨rfl, rfl⟩ | ⟨g, cap, cur, rfl, hbg, hg, _⟩
  · have e : news = [] := List.eq_nil_of_length_eq_zero (by omega)
    subst e
    exact ⟨v, w, run_append_owned_none w base 53 ty 89 i0 5 Try.underlying53 hi v n xs h1, by simpa using h1, ⟨rfl, rfl, rfl, Nat.le_refl _, fun _ _ _ => rfl⟩, .inl rfl⟩
  · obtain ⟨v', w', hr, a1, a2, _, a3⟩ := run_append_own_at (P := Try.prog) w base 53 ty 89 i0 (.agg #[.int .i64 0, .int .i64 0, .string ⟨#[]⟩, .slice none 0 0, .int .i64 0]) 5 64 Try.underlying53 hi hz0 hz1 hz2 rfl (by decide) v n xs h1 ⟨g, 0, none⟩ m cap news hl (h2.cells rfl) hnews (by unfold maxLen; omega) (by omega) hb
    exact ⟨v', w', hr, a1, a2, a3⟩

theorem row_new5 (w : World) (b : Nat) (hb : b ≤ w.heap.size) : (w.alloc (.cells #[] 89)).ownsRow b 89 5 (.slice (some ⟨w.heap.size, 0, none⟩) 0 0) 0 [] :=
  ⟨rfl, .inr ⟨w.heap.size, 0, #[], rfl, hb, (MapKept.heap_alloc w _).1, Nat.le_refl _, by decide, rfl, rfl⟩⟩

theorem run_build89 (id v : Int) (fn : ByteArray) (s : Value) (w : World) : (Instr.build 89 #[(0, .int .i64 id), (1, .agg #[.int .i64 v, .string fn, s])]).run Try.prog w = .ok (.agg #[.int .i64 id, .int .i64 v, .string fn, s, .int .i64 0]) w := by kernel_rfl

section
variable {w0 : World} {n0 Bd : Nat} {limit : Int} {ns : List Dn} {lv : Value} {W : World}

theorem DB.one (h : DB w0 n0 Bd limit ns lv W) : ∀ u ∈ flat5 ns, u.oneCell' = true := by
  intro u hu
  unfold flat5 at hu
  obtain ⟨p, hp, hu⟩ := List.mem_flatMap.1 hu
  obtain ⟨a, c, e, _⟩ := (h.args p hp).slice
  simp only [List.mem_cons, List.not_mem_nil, or_false] at hu
  rcases hu with rfl | rfl | rfl | rfl | rfl
  · rfl
  · rfl
  · rfl
  · rw [e]; rfl
  · rfl

/-- A node more. -/
theorem DB.snoc (h : DB w0 n0 Bd limit ns lv W) (nn : Dn) (ha : ArgsAt w0 nn.s nn.t.args) {A : World} (hA : Below W.heap.size W A) {v' : Value} {w' : World} (hrow : w'.ownsRow n0 89 5 v' (ns.length + 1) (flat5 ns ++ [.int .i64 nn.id, .int .i64 nn.t.v, .string nn.t.fn, nn.s, .int .i64 nn.kept])) (hg : A.grownBy w' lv.ownBlock) (hv : v'.ownBlock = lv.ownBlock ∨ v'.ownBlock = some A.heap.size) :
    DB w0 n0 Bd limit (ns ++ [nn]) v' (w'.setCell ⟨Bd, 1, none⟩ v') ∧ (∀ g, v'.ownBlock = some g → lv.ownBlock = some g ∨ W.heap.size ≤ g) ∧ Only (Bd :: ob lv) W (w'.setCell ⟨Bd, 1, none⟩ v') := by
  have hBd := h.lt.1
  have hne : v'.ownBlock ≠ some Bd := fun e => by
    rcases hv with h1 | h1
    · exact h.ne (h1.symm.trans e)
    · rw [h1] at e
      have := hA.size
      cases e
      omega
  have hhead : w'.heap[Bd]? = some (.cells [Value.int .i64 limit, lv].toArray 55 (0, 0)) := by
    rw [hg.block Bd (by have := hA.size; omega) (fun e => h.ne e.symm), hA.block Bd hBd]
    exact h.head
  refine ⟨⟨set_any (i := 1) hhead, ?_, fun n hn => ?_, hne, h.low, h.hn0⟩, fun g hgv => ?_, ?_⟩
  · rw [List.length_append, flat5_snoc]
    exact row_keep hrow (fun g' hg' => Below.heap_setCell _ _ _ g' (by show g' ≠ Bd; rintro rfl; exact hne hg'))
  · rcases List.mem_append.1 hn with hn | hn
    · exact h.args n hn
    · obtain rfl := List.mem_singleton.1 hn
      exact ha
  · rcases hv with h1 | h1
    · exact .inl (h1 ▸ hgv)
    · rw [h1] at hgv
      have := hA.size
      cases hgv
      exact .inr this
  · exact ((Only.of_below (B := Bd :: ob lv) hA).trans (Only.of_grown (B := Bd :: ob lv) hg (fun r hr => List.mem_cons_of_mem _ (mem_ob.2 hr))) (fun r hr => .inl hr)).trans (Only.of_grown (B := Bd :: ob lv) (World.grownBy_setCell_any w' Bd 1 _) (fun r e => by cases e; simp)) (fun r hr => .inl hr)

end

/-- What the loop over the parts keeps. -/
def ML (w0 : World) (n0 Bd : Nat) (limit : Int) (ns : List Dn) (lv : Value) (ps : List (T × Value)) (i n : Nat) (lv1 : Value) (Wa wr : World) : Prop :=
  ∃ ns1 : List Dn, ns1.length = n ∧ DMk ns (ps.take i) ns1 ∧ DB w0 n0 Bd limit ns1 lv1 wr ∧ (∀ g, lv1.ownBlock = some g → lv.ownBlock = some g ∨ Wa.heap.size ≤ g) ∧ Only (Bd :: ob lv) Wa wr

theorem dmk_len {ns ns' : List Dn} {ps : List (T × Value)} (h : DMk ns ps ns') : ns.length ≤ ns'.length ∧ ns'.length ≤ ns.length + ps.length := by
  induction h with
  | nil ns => exact ⟨Nat.le_refl _, Nat.le_refl _⟩
  | old n hn ht h ih => simp only [List.length_cons]; omega
  | new hn hi h ih => simp only [List.length_append, List.length_cons, List.length_nil] at ih ⊢; omega

/-- What the document's Make does. -/
def MkP (w0 : World) (n0 Bd : Nat) (limit : Int) (ns : List Dn) (lv : Value) (t : T) (W : World) (e : Ending) (W' : World) : Prop :=
  ∃ (ps : List (T × Value)) (ns' : List Dn) (lv' : Value), ps.map (·.1) = t.post ∧ DMk ns ps ns' ∧ (∀ g, lv'.ownBlock = some g → lv.ownBlock = some g ∨ W.heap.size ≤ g) ∧ Only (Bd :: ob lv) W W' ∧
    (((ns'.length : Int) ≤ limit ∧ ∃ k, ∃ hk : k < ns'.length, ns'[k].t = t ∧ e = .returned (.tuple #[.int .i64 ns'[k].id, .int .i64 0]) ∧ DB w0 n0 Bd limit (ns'.set k (ns'[k].put (ns'[k].kept + 1))) lv' W') ∨
      (limit < (ns'.length : Int) ∧ e = .returned (.tuple #[.int .i64 0, .int .i64 5]) ∧ DB w0 n0 Bd limit ns lv' W'))

section
variable {w0 : World} {n0 Bd : Nat} {limit : Int} {ns : List Dn} {lv : Value} {W : World}

set_option maxRecDepth 100000 in
set_option maxHeartbeats 2000000 in
theorem dmake_bad (_h : DB w0 n0 Bd limit ns lv W) (hw : Below w0.heap.size w0 W) (t : T) (sl : Value) (ha : ArgsAt w0 sl t.args) (hr : t.rightW ≠ 0) :
    Calls Try.prog 26 #[.pointer (some ⟨Bd, 0, none⟩), tval t sl] W fun e W' => e = .returned (.tuple #[.int .i64 0, .int .i64 t.rightW]) ∧ Below W.heap.size W W' := by
  obtain ⟨W1, h1⟩ : ∃ X, W.alloc (tbox t sl) = X := ⟨_, rfl⟩
  have b1 : Below W.heap.size W W1 := by rw [← h1]; exact below_box _ _
  obtain ⟨x0, x1, x2⟩ := tbox_cells W t sl
  rw [h1] at x0 x1 x2
  have hw1 := hw.trans (b1.mono hw.size)
  have hc := rright_any t sl W1 (ArgsAt.keep hw1 (Nat.le_refl _) ha)
  have hz : (t.rightW != 0) = true := by simpa using hr
  obtain ⟨z, hzz⟩ : ∃ z, t.rightW = z := ⟨_, rfl⟩
  rw [hzz] at hc hz ⊢
  obtain ⟨sa, sc, rfl, _, _⟩ := ha.slice
  have HB : Hid (Below W.heap.size W W1) := b1
  clear ha hr hzz b1 _h hw hw1
  go_enter Try.func26, Try.ntmps26
  try rw [h1]
  go_wp2_with fail
  try rw [h1]
  refine hc.mono ?_
  rintro e W2 ⟨rfl, b2⟩
  have HB2 : Hid (Below W.heap.size W W2) := HB.out.trans (b2.mono HB.out.size)
  clear b2
  go_wp2
  go_ret2
  exact ⟨rfl, HB2.out⟩

end

end Go.Proofs.Ytbbfpllffcfmhaa
