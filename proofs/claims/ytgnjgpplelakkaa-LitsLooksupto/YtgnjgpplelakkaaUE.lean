/-
  subst.numbers: the iterator over a term's variables.
-/
import Derived.Test.YtgnjgpplelakkaaUD
namespace Go.Proofs.Ytgnjgpplelakkaa
open Go.RowKit Go.Shelf

attribute [local go_sem] Oper.semAt_some

/-- What lies in the iterator's blocks. -/
structure ItN (w0 : World) (l Y Wb : Nat) (E : List Nat) (W : World) : Prop where
  y : Boxed W Y 120 (.func (.yield l) #[] #[])
  k : Boxed W Wb 76 (.func (.func 115) #[] #[.pointer (some ⟨Y, 0, none⟩), .pointer (some ⟨Wb, 0, none⟩)])
  my : Y ∈ E
  mw : Wb ∈ E
  bel : Below w0.heap.size w0 W

theorem ItN.kept {w0 : World} {l Y Wb : Nat} {E : List Nat} {W W' : World} (h : ItN w0 l Y Wb E W) (hk : Kept w0.heap.size E W W') : ItN w0 l Y Wb E W' :=
  { h with y := (hk.mine Y h.my).trans h.y, k := (hk.mine Wb h.mw).trans h.k, bel := h.bel.trans hk.below }

theorem ItN.alloc {w0 : World} {l Y Wb : Nat} {E : List Nat} {W : World} (h : ItN w0 l Y Wb E W) (o : Obj) : ItN w0 l Y Wb E (W.alloc o) :=
  { h with y := h.y.alloc o, k := h.k.alloc o, bel := h.bel.alloc h.bel.size _ }

theorem ItN.more {w0 : World} {l Y Wb : Nat} {E E' : List Nat} {W : World} (h : ItN w0 l Y Wb E W) (hE : ∀ r ∈ E, r ∈ E') : ItN w0 l Y Wb E' W :=
  { h with my := hE _ h.my, mw := hE _ h.mw }

/-- What the closure walk does at p. -/
def WalkN (w0 : World) (l Y Wb : Nat) (all : List Int) (J Jx : List Nat → List Int → World → Prop) (p : T) : Prop :=
  ∀ (m : Nat) (sl : Value) (W : World) (E : List Nat) (pre : List Int), ItN w0 l Y Wb E W → J E pre W → ArgsAt w0 sl p.args → (∃ rest, pre ++ p.vs ++ rest = all) →
    CallsIn Fence.wide m Try.prog 115 #[tval p sl, .pointer (some ⟨Y, 0, none⟩), .pointer (some ⟨Wb, 0, none⟩)] W fun e W' =>
      (e = .returned (.bool true) ∧ ∃ E', ItN w0 l Y Wb E' W' ∧ J E' (pre ++ p.vs) W' ∧ (∀ r ∈ E, r ∈ E')) ∨ (e = .returned (.bool false) ∧ ∃ E' pre', Jx E' pre' W')

/-- The variables of the first k. -/
def vsTo (l : List T) (k : Nat) : List Int := ((l.take k).map T.vs).flatten
theorem vsTo_succ (l : List T) (k : Nat) (h : k < l.length) : vsTo l (k + 1) = vsTo l k ++ l[k].vs := by
  unfold vsTo
  rw [List.take_succ_eq_append_getElem h, List.map_append, List.flatten_append]
  simp
theorem vsTo_all (l : List T) : vsTo l l.length = (l.map T.vs).flatten := by unfold vsTo; rw [List.take_length]
theorem vsTo_split (l : List T) (k : Nat) (h : k < l.length) : (l.map T.vs).flatten = vsTo l k ++ l[k].vs ++ ((l.drop (k + 1)).map T.vs).flatten := by
  have h3 : l = l.take k ++ l[k] :: l.drop (k + 1) := by rw [List.getElem_cons_drop, List.take_append_drop]
  conv => lhs; rw [h3]
  unfold vsTo
  rw [List.map_append, List.flatten_append, List.map_cons, List.flatten_cons, List.append_assoc]

/-- The walk's loop over the arguments, behind what was yielded. -/
theorem own_new {J : List Nat → List Int → World → Prop} (hJ : Abide J) {E : List Nat} {pre : List Int} {W : World} (hj : J E pre W) (o : Obj) : J (W.heap.size :: E) pre (W.alloc o) :=
  hJ _ _ _ _ _ _ hj (World.grownBy_alloc W _ none) (fun _ e => by cases e) (fun r hr => by rcases List.mem_cons.1 hr with rfl | h; exact .inr ⟨Nat.le_refl _, by simp⟩; exact .inl h)

set_option maxRecDepth 100000 in
set_option maxHeartbeats 2000000 in
theorem walkn_fn (w0 : World) (l Y Wb : Nat) (all : List Int) (J Jx : List Nat → List Int → World → Prop) (hJ : Abide J) (p : T)
    (ih : ∀ a ∈ p.args, WalkN w0 l Y Wb all J Jx a) (h0 : p.fn.size ≠ 0) : WalkN w0 l Y Wb all J Jx p := by
  intro m sl W E pre hS hj ha hrest
  obtain ⟨a, c, rfl, hc, hm⟩ := ha.slice
  have hvs : p.vs = (p.args.map T.vs).flatten := by rw [p.vs_eq, if_neg h0]; rfl
  rw [hvs] at hrest ⊢
  obtain ⟨rest, hrest⟩ := hrest
  have hS1 := (hS.alloc (tbox p (.slice a p.args.length c))).more (E' := W.heap.size :: E) (fun r hr => by simp [hr])
  have hj1 := own_new hJ hj (tbox p (.slice a p.args.length c))
  have hdd : p.fn.toList.isEmpty = false := by rw [ba_isEmpty]; exact decide_eq_false h0
  obtain ⟨t0, t1, t2⟩ := tbox_cells W p (.slice a p.args.length c)
  have HA : Hid (ArgsAt w0 (.slice a p.args.length c) p.args) := ha
  have HIH : Hid (∀ a ∈ p.args, WalkN w0 l Y Wb all J Jx a) := ih
  have HS1 : Hid (ItN w0 l Y Wb (W.heap.size :: E) (W.alloc (tbox p (.slice a p.args.length c))) ∧ J (W.heap.size :: E) pre (W.alloc (tbox p (.slice a p.args.length c)))) := ⟨hS1, hj1⟩
  clear h0 hS hj hvs ih ha hS1 hj1
  refine callsIn_of_wp Try.func115 rfl trivial ?_ rfl
  simp only [Try.ntmps115, List.size_toArray, List.length_cons, List.length_nil, Nat.reduceAdd, Nat.reduceSub, Array.replicate_succ, Array.replicate_zero, List.push_toArray, List.append_toArray, List.nil_append, List.cons_append]
  gi_wp2
  refine ⟨fun f h => (by cases h), ?_⟩
  gi_wp2
  gi_loopw [20] (fun i wr => ∃ (k : Nat) (E' : List Nat), k ≤ p.args.length ∧ i = .int .i64 k ∧ Hid (ItN w0 l Y Wb E' wr ∧ J E' (pre ++ vsTo p.args k) wr ∧ (∀ r ∈ E, r ∈ E'))) (fun i _ => p.args.length - (intOf i).toNat)
  case atStart => exact ⟨0, _, Nat.zero_le _, rfl, HS1.out.1, by simpa [vsTo] using HS1.out.2, fun r hr => by simp [hr]⟩
  case round =>
    obtain ⟨k, E', hk, rfl, hS3, hj3, hE3⟩ := hrel
    by_cases hlt : k < p.args.length
    · have haw := ArgsAt.keep hS3.bel (Nat.le_refl _) HA.out
      obtain ⟨ba, oa, s, e1, hba, a0, a1, a2, hsw⟩ := haw.nth hlt
      obtain ⟨b', o', s', e2, _, _, _, c2', hs⟩ := HA.out.nth hlt
      cases e1
      have hss : s' = s := by
        cases e2
        have := (hS3.bel.cell (p := ⟨ba, oa + k * 3 + 2, none⟩) (World.block_lt_of_cell? w0 _ c2')).trans c2'
        rw [a2] at this
        exact (Option.some.inj this).symm
      subst hss
      clear e2 c2' haw hsw
      obtain ⟨aa, cs, rfl, _, _⟩ := hs.slice
      have hin : pre ++ vsTo p.args k ++ p.args[k].vs ++ (((p.args.drop (k + 1)).map T.vs).flatten ++ rest) = all := by
        rw [← hrest, vsTo_split p.args k hlt]
        simp [List.append_assoc]
      have hS4 := hS3.alloc (tbox p.args[k] (.slice aa p.args[k].args.length cs))
      have hj4 : J E' (pre ++ vsTo p.args k) (wr.alloc (tbox p.args[k] (.slice aa p.args[k].args.length cs))) := hJ _ _ _ _ _ _ hj3 (World.grownBy_alloc wr _ none) (fun _ e => by cases e) (fun r hr => .inl hr)
      obtain ⟨u0, u1, u2⟩ := tbox_cells wr p.args[k] (.slice aa p.args[k].args.length cs)
      have ck := hS4.k.cell
      have hcall := HIH.out p.args[k] (List.getElem_mem hlt) (m - 1) _ _ E' _ hS4 hj4 hs ⟨_, hin⟩
      have HN : Hid (vsTo p.args (k + 1) = vsTo p.args k ++ p.args[k].vs) := vsTo_succ p.args k hlt
      have HE3 : Hid (∀ r ∈ E, r ∈ E') := hE3
      clear hS3 hj3 hS4 hj4 hs hin hE3
      gi_wp2_with fail
      refine ⟨trivial, fun h => (by cases h), hcall.mono ?_⟩
      rintro e W6 (⟨rfl, E6, hS6, hj6, hE6⟩ | ⟨rfl, E6, pre6, hx6⟩)
      · gi_wp2
        refine ⟨⟨k + 1, E6, by omega, by go_num, hS6, by rw [HN.out, ← List.append_assoc]; exact hj6, fun r hr => hE6 r (HE3.out r hr)⟩, by simp [intOf]; omega⟩
      · gi_wp2
        go_ret
        exact .inr ⟨rfl, _, _, hx6⟩
    · have hke : k = p.args.length := by omega
      subst hke
      have HF : Hid (ItN w0 l Y Wb E' wr ∧ J E' (pre ++ (p.args.map T.vs).flatten) wr ∧ (∀ r ∈ E, r ∈ E')) := ⟨hS3, by rw [← vsTo_all]; exact hj3, hE3⟩
      clear hS3 hj3 hE3
      gi_wp2
      go_ret
      exact .inl ⟨rfl, E', HF.out⟩

end Go.Proofs.Ytgnjgpplelakkaa
