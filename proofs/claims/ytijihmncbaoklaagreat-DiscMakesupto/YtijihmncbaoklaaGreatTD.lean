import Derived.Test.YtijihmncbaoklaaGreatTA
import Derived.Test.YtijihmncbaoklaaGreatTB
import Derived.Test.YtijihmncbaoklaaGreatI
import Derived.Test.YtijihmncbaoklaaGreatAP
import Derived.Laws.EntriesVeiled

/-
  The iterator over a term's parts, each ahead of its arguments'.
-/
namespace Go.Proofs.YtijihmncbaoklaaGreat
open Go.RowKit Go.Shelf

attribute [local go_sem] Oper.semAt_some

abbrev pv1 (p : T) (sl : Value) : Array Value := #[tval p sl]

/-- What lies in the iterator's blocks. -/
structure ItP (D : Nat → Prop) (w0 : World) (l Y Kb : Nat) (E : List Nat) (W : World) : Prop where
  y : Boxed W Y 65 (.func (.yield l) #[] #[])
  k : Boxed W Kb 65 (.func (.func 83) #[] #[.pointer (some ⟨Y, 0, none⟩), .pointer (some ⟨Kb, 0, none⟩)])
  my : Y ∈ E
  mb : Kb ∈ E
  same : SameD D w0 W
  dlt : ∀ b, D b → b < W.heap.size

section
variable {D : Nat → Prop} {w0 : World} {l Y Kb : Nat} {E : List Nat} {W W' : World}
theorem ItP.kept (h : ItP D w0 l Y Kb E W) (hk : KeptD D E W W') : ItP D w0 l Y Kb E W' :=
  ⟨(hk.mine Y h.my).trans h.y, (hk.mine Kb h.mb).trans h.k, h.my, h.mb, h.same.next hk.keep, fun b hb => Nat.lt_of_lt_of_le (h.dlt b hb) hk.size⟩
theorem ItP.alloc (h : ItP D w0 l Y Kb E W) (o : Obj) : ItP D w0 l Y Kb E (W.alloc o) :=
  ⟨h.y.alloc o, h.k.alloc o, h.my, h.mb, h.same.next (fun b hb => Below.heap_alloc _ _ _ (h.dlt b hb)), fun b hb => by have := h.dlt b hb; simp; omega⟩
theorem ItP.more (h : ItP D w0 l Y Kb E W) {E' : List Nat} (hE : ∀ r ∈ E, r ∈ E') : ItP D w0 l Y Kb E' W := ⟨h.y, h.k, hE _ h.my, hE _ h.mb, h.same, h.dlt⟩
end

def WalkP (D : Nat → Prop) (w0 : World) (l Y Kb : Nat) (all : List T) (J Jx : List Nat → List T → World → Prop) (p : T) : Prop :=
  ∀ (m : Nat) (sl : Value) (W : World) (E : List Nat) (pre : List T), ItP D w0 l Y Kb E W → J E pre W → ArgsP D w0 sl p.args → (∃ rest, pre ++ p.pre ++ rest = all) →
    CallsIn Fence.wide m Tryz.prog 83 #[tval p sl, .pointer (some ⟨Y, 0, none⟩), .pointer (some ⟨Kb, 0, none⟩)] W fun e W' =>
      (e = .returned (.bool true) ∧ ∃ E', ItP D w0 l Y Kb E' W' ∧ J E' (pre ++ p.pre) W' ∧ (∀ r ∈ E, r ∈ E')) ∨ (e = .returned (.bool false) ∧ ∃ E' pre', Jx E' pre' W')

theorem flat_take_succ (l : List T) (k : Nat) (h : k < l.length) : (l.take (k + 1)).flatMap T.pre = (l.take k).flatMap T.pre ++ l[k].pre := by
  rw [List.take_succ_eq_append_getElem h, List.flatMap_append]
  simp
theorem flat_split (l : List T) (k : Nat) (h : k < l.length) : l.flatMap T.pre = (l.take k).flatMap T.pre ++ l[k].pre ++ (l.drop (k + 1)).flatMap T.pre := by
  rw [← flat_take_succ l k h, ← List.flatMap_append, List.take_append_drop]

set_option maxRecDepth 100000 in
set_option maxHeartbeats 2000000 in
theorem walkp_one (D : Nat → Prop) (w0 : World) (l Y Kb : Nat) (all : List T) (J Jx : List Nat → List T → World → Prop) (hJ : Abide J) (hY : YieldsG pv1 (fun p sl => ArgsP D w0 sl p.args) l D w0 all J Jx) (p : T)
    (ih : ∀ a ∈ p.args, WalkP D w0 l Y Kb all J Jx a) : WalkP D w0 l Y Kb all J Jx p := by
  intro m sl W E pre hS hj ha hrest
  obtain ⟨a, c, rfl, hc, hm⟩ := ha.slice'
  have hS1 := (hS.alloc (tbox p (.slice a p.args.length c))).more (E' := W.heap.size :: E) (fun r hr => by simp [hr])
  have hj1 : J (W.heap.size :: E) pre (W.alloc (tbox p (.slice a p.args.length c))) := hJ _ _ _ _ _ _ hj (World.grownBy_alloc W _ none) (fun _ e => by cases e) (fun r hr => by rcases List.mem_cons.1 hr with rfl | h; exact .inr ⟨Nat.le_refl _, by simp⟩; exact .inl h)
  obtain ⟨rest, hrest⟩ := hrest
  rw [p.pre_eq] at hrest
  have hy := hY _ pre p (.slice a p.args.length c) _ hj1 hS1.same ha ⟨p.args.flatMap T.pre ++ rest, by rw [← hrest]; simp⟩ (m - 1)
  obtain ⟨t0, t1, t2⟩ := tbox_cells W p (.slice a p.args.length c)
  have cy := hS1.y.cell
  have ck := hS1.k.cell
  obtain ⟨fn, tmps, assign, body, hyr, hR⟩ := hy
  refine callsIn_of_wp Tryz.func83 rfl trivial ?_ rfl
  simp only [Tryz.ntmps83, List.size_toArray, List.length_cons, List.length_nil, Nat.reduceAdd, Nat.reduceSub, Array.replicate_succ, Array.replicate_zero, List.push_toArray, List.append_toArray, List.nil_append, List.cons_append]
  gi_wp2_with fail
  refine ⟨fun h => (by cases h), ?_⟩
  refine hR.mono ?_
  clear hR
  rintro e W2 (⟨rfl, hj2, hk2⟩ | ⟨rfl, hx⟩)
  · have hS2 := hS1.kept hk2
    have hbox : W2.heap[W.heap.size]? = some (.cells [Value.int .i64 p.v, .string p.fn, .slice a p.args.length c].toArray 32 (0, 0)) := (hk2.mine _ (by simp)).trans (MapKept.heap_alloc W _).1
    have b2 : W2.cell? ⟨W.heap.size, 2, none⟩ = some (.slice a p.args.length c) := by rw [cell_of_row _ _ _ _ 32 (0, 0) hbox]; rfl
    clear hyr cy ck t0 t1 t2 hk2 hj1 hS1 hbox hS hj
    gi_wp2
    gi_loopw [14] (fun i wr => ∃ (k : Nat) (E' : List Nat), k ≤ p.args.length ∧ i = .int .i64 k ∧ Hid (ItP D w0 l Y Kb E' wr ∧ J E' (pre ++ p :: (p.args.take k).flatMap T.pre) wr ∧ (∀ r ∈ E, r ∈ E'))) (fun i _ => p.args.length - (intOf i).toNat)
    case atStart => exact ⟨0, _, Nat.zero_le _, rfl, hS2, by simpa using hj2, fun r hr => by simp [hr]⟩
    case round =>
      obtain ⟨k, E', hk, rfl, hS3, hj3, hE3⟩ := hrel
      by_cases hlt : k < p.args.length
      · obtain ⟨ba, oa, s, rfl, hbD, hba, q0, q1, q2, hs⟩ := ha.nth hlt
        have hbs := hS3.same ba hbD
        have a0 : wr.cell? ⟨ba, oa + k * 3, none⟩ = some (.int .i64 p.args[k].v) := (World.cell?_of_block (a := ⟨ba, _, none⟩) hbs).trans q0
        have a1 : wr.cell? ⟨ba, oa + k * 3 + 1, none⟩ = some (.string p.args[k].fn) := (World.cell?_of_block (a := ⟨ba, _, none⟩) hbs).trans q1
        have a2 : wr.cell? ⟨ba, oa + k * 3 + 2, none⟩ = some s := (World.cell?_of_block (a := ⟨ba, _, none⟩) hbs).trans q2
        obtain ⟨aa, cs, rfl, _, _⟩ := hs.slice'
        have hin : pre ++ p :: (p.args.take k).flatMap T.pre ++ p.args[k].pre ++ ((p.args.drop (k + 1)).flatMap T.pre ++ rest) = all := by
          rw [← hrest, flat_split p.args k hlt]
          simp [List.append_assoc]
        have hS4 := hS3.alloc (tbox p.args[k] (.slice aa p.args[k].args.length cs))
        have hj4 : J E' (pre ++ p :: (p.args.take k).flatMap T.pre) (wr.alloc (tbox p.args[k] (.slice aa p.args[k].args.length cs))) := hJ _ _ _ _ _ _ hj3 (World.grownBy_alloc wr _ none) (fun _ e => by cases e) (fun r hr => .inl hr)
        obtain ⟨z0, z1, z2⟩ := tbox_cells wr p.args[k] (.slice aa p.args[k].args.length cs)
        have ck := hS4.k.cell
        have HI : Hid (WalkP D w0 l Y Kb all J Jx p.args[k]) := ih p.args[k] (List.getElem_mem hlt)
        clear ih hY q0 q1 q2 hbs hba
        gi_wp2_with fail
        refine ⟨trivial, fun h => (by cases h), (HI (m - 1) _ _ E' _ hS4 hj4 hs ⟨_, hin⟩).mono ?_⟩
        rintro e W6 (⟨rfl, E6, hS6, hj6, hE6⟩ | ⟨rfl, E6, pre6, hx6⟩)
        · clear HI hS4 hj4 a0 a1 a2 z0 z1 z2 ck
          gi_wp2
          refine ⟨⟨k + 1, E6, by omega, by go_num, hS6, ?_, fun r hr => hE6 r (hE3 r hr)⟩, by simp [intOf]; omega⟩
          rw [flat_take_succ _ _ hlt]
          simpa [List.append_assoc] using hj6
        · gi_wp2
          go_ret
          exact .inr ⟨rfl, _, _, hx6⟩
      · gi_wp2
        go_ret
        refine .inl ⟨rfl, E', hS3, ?_, hE3⟩
        rw [p.pre_eq]
        rw [List.take_of_length_le (by omega)] at hj3
        exact hj3
  · gi_wp2
    go_ret
    exact .inr ⟨rfl, _, _, hx⟩

theorem walkp_any (D : Nat → Prop) (w0 : World) (l Y Kb : Nat) (all : List T) (J Jx : List Nat → List T → World → Prop) (hJ : Abide J) (hY : YieldsG pv1 (fun p sl => ArgsP D w0 sl p.args) l D w0 all J Jx) (p : T) : WalkP D w0 l Y Kb all J Jx p := by
  induction p using T.ind with
  | _ p ih => exact walkp_one D w0 l Y Kb all J Jx hJ hY p ih

end Go.Proofs.YtijihmncbaoklaaGreat

/-
  disc.parts, whole; symbolOf, isStar.
-/
namespace Go.Proofs.YtijihmncbaoklaaGreat
open Go.RowKit Go.Shelf

attribute [local go_sem] Oper.semAt_some

set_option maxRecDepth 100000 in
set_option maxHeartbeats 2000000 in
theorem iterp_any (D : Nat → Prop) (w0 : World) (Bt : Nat) (t : T) (sl : Value) (W : World) (hsame : SameD D w0 W) (hdl : ∀ b, D b → b < W.heap.size) (hbx : W.heap[Bt]? = some (.cells [Value.int .i64 t.v, .string t.fn, sl].toArray 32 (0, 0))) (ha : ArgsP D w0 sl t.args) :
    IterG pv1 (fun p sl => ArgsP D w0 sl p.args) 82 #[.pointer (some ⟨Bt, 0, none⟩)] D w0 t.pre [] W := by
  intro m l J Jx hJ hY hj
  have hw := walkp_any D w0 l W.heap.size (W.heap.size + 1) t.pre J Jx hJ hY t
  have c0 : W.cell? ⟨Bt, 0, none⟩ = some (.int .i64 t.v) := by rw [cell_of_row _ _ _ _ 32 (0, 0) hbx]; rfl
  have c1 : W.cell? ⟨Bt, 1, none⟩ = some (.string t.fn) := by rw [cell_of_row _ _ _ _ 32 (0, 0) hbx]; rfl
  have c2 : W.cell? ⟨Bt, 2, none⟩ = some sl := by rw [cell_of_row _ _ _ _ 32 (0, 0) hbx]; rfl
  have hBlt : Bt < W.heap.size := (Array.getElem?_eq_some_iff.1 hbx).1
  obtain ⟨fv, hfv⟩ : ∃ fv : Value, fv = .func (.func 83) #[] #[.pointer (some ⟨W.heap.size, 0, none⟩), .pointer (some ⟨W.heap.size + 1, 0, none⟩)] := ⟨_, rfl⟩
  have y0 := Boxed.new W 65 (.func (.yield l) #[] #[])
  have k0 := Boxed.new (W.alloc (.cells #[.func (.yield l) #[] #[]] 65)) 65 fv
  rw [World.size_alloc] at k0
  have y1 := y0.alloc (.cells #[fv] 65)
  have bW : Below W.heap.size W ((W.alloc (.cells #[.func (.yield l) #[] #[]] 65)).alloc (.cells #[fv] 65)) := ((Below.refl _ _).alloc (Nat.le_refl _) _).alloc (by simp) _
  have hS : ItP D w0 l W.heap.size (W.heap.size + 1) [W.heap.size, W.heap.size + 1] ((W.alloc (.cells #[.func (.yield l) #[] #[]] 65)).alloc (.cells #[fv] 65)) :=
    { y := y1, k := hfv ▸ k0, my := by simp, mb := by simp, same := hsame.next (fun b hb => bW.block b (hdl b hb)), dlt := fun b hb => by have := hdl b hb; simp; omega }
  have hj3 : J [W.heap.size, W.heap.size + 1] [] ((W.alloc (.cells #[.func (.yield l) #[] #[]] 65)).alloc (.cells #[fv] 65)) := by
    have g13 : W.grownBy ((W.alloc (.cells #[.func (.yield l) #[] #[]] 65)).alloc (.cells #[fv] 65)) none := ⟨rfl, rfl, rfl, by simp; omega, fun i hi _ => by rw [Below.heap_alloc _ _ _ (by simp; omega), Below.heap_alloc _ _ _ hi]⟩
    exact hJ _ _ _ _ _ _ hj g13 (fun _ e => by cases e) (fun r hr => .inr (by simp at hr ⊢; omega))
  have hcall := hw (m - 1) sl _ _ [] hS hj3 ha ⟨[], by simp⟩
  have c0' := kc bW hBlt c0
  have c1' := kc bW hBlt c1
  have c2' := kc bW hBlt c2
  rw [hfv] at hcall c0' c1' c2'
  clear c0 c1 c2 bW
  clear hS hj3 hw y0 k0 y1 hY hJ hj hbx
  obtain ⟨sa, sc, rfl⟩ := ha.slice
  clear ha
  refine callsIn_of_wp Tryz.func82 rfl trivial ?_ rfl
  simp only [Tryz.ntmps82, List.size_toArray, List.length_cons, List.length_nil, Nat.reduceAdd, Nat.reduceSub, Array.replicate_succ, Array.replicate_zero, List.push_toArray, List.append_toArray, List.nil_append, List.cons_append]
  gi_wp2_with fail
  refine ⟨trivial, fun h => (by cases h), hcall.mono ?_⟩
  rintro e W6 (⟨rfl, E6, hS6, hj6, hE6⟩ | ⟨rfl, E6, pre6, hx6⟩)
  · gi_wp2
    go_end0
    exact ⟨⟨_, rfl⟩, .inl ⟨E6, by simpa using hj6⟩⟩
  · gi_wp2
    go_end0
    exact ⟨⟨_, rfl⟩, .inr ⟨E6, pre6, hx6⟩⟩

/-- disc.parts: the parameter is boxed; the function value captures the box. -/
theorem dparts_any (t : T) (sl : Value) (w : World) :
    Calls Tryz.prog 53 #[tval t sl] w fun e w' => e = .returned (.func (.func 82) #[] #[.pointer (some ⟨w.heap.size, 0, none⟩)]) ∧ w' = w.alloc (tbox t sl) := by
  go_enter Tryz.func53, Tryz.ntmps53
  go_wp2
  go_ret
  exact ⟨rfl, rfl⟩

/-- A symbol's value. -/
abbrev symv (s : Sym) : Value := .agg #[.string s.1, .int .i64 (s.2 : Nat)]

set_option maxHeartbeats 1000000 in
theorem symbolOf_any (t : T) (a : Option Addr) (c : Nat) (w : World) : Calls Tryz.prog 55 #[tval t (.slice a t.args.length c)] w fun e w' => e = .returned (symv t.sym) ∧ Below w.heap.size w w' := by
  have hb := below_box2 w (tbox t (.slice a t.args.length c)) (.cells #[.string t.fn, .int .i64 (t.args.length : Nat)] 75)
  have t1 : ((w.alloc (tbox t (.slice a t.args.length c))).alloc (.cells #[.string ⟨#[]⟩, .int .i64 0] 75)).cell? ⟨w.heap.size, 1, none⟩ = some (.string t.fn) := kc (below_box _ _) (by simp) (tbox_cells w t (.slice a t.args.length c)).2.1
  have t2 : ((w.alloc (tbox t (.slice a t.args.length c))).alloc (.cells #[.string ⟨#[]⟩, .int .i64 0] 75)).cell? ⟨w.heap.size, 2, none⟩ = some (.slice a t.args.length c) := kc (below_box _ _) (by simp) (tbox_cells w t (.slice a t.args.length c)).2.2
  go_enter Tryz.func55, Tryz.ntmps55
  go_wp2
  refine bodyPost_ret (v := symv t.sym) (by simp [results, Tryz.results55, go_sem, *]; exact ⟨rfl, rfl⟩) rfl ?_
  exact ⟨rfl, hb⟩

end Go.Proofs.YtijihmncbaoklaaGreat
