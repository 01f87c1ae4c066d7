/-
  sweep.
-/
import Derived.Test.YtbbfpllffcfmhaaWF
namespace Go.Proofs.Ytbbfpllffcfmhaa
open Go.RowKit Go.Maps

/-- What sweep gives. -/
def SwP (n0 Ba : Nat) (B : List Nat) (limit : Int) (es : List Ent) (P : List Int) (i : Int) (W : World) (e : Ending) (W' : World) : Prop :=
  e = .returned (.tuple #[]) ∧ ∃ es' free' B', BankSt n0 Ba B' limit es' free' W' ∧ Swp P i es es' ∧ free'.length + es'.length ≤ 1000000 ∧ (∀ r ∈ B', r ∈ B ∨ W.heap.size ≤ r) ∧ Only B W W'

/-- What the loop over the arguments keeps. -/
def SwL (n0 Ba : Nat) (B : List Nat) (limit : Int) (es : List Ent) (Q : List Int) (i : Int) (b : Nat) (W wr : World) : Prop :=
  ∃ es1 free1 B1, BankSt n0 Ba B1 limit es1 free1 wr ∧ Swp Q i es es1 ∧ es1.length < es.length ∧ free1.length + es1.length ≤ 1000000 ∧ (∀ r ∈ B1, r ∈ B ∨ W.heap.size ≤ r) ∧ b ∉ B1 ∧ Only B W wr ∧ wr.heap[b]? = W.heap[b]? ∧ b < W.heap.size

theorem BankAt.own_ne {n0 Ba : Nat} {B : List Nat} {limit : Int} {es : List Ent} {free : List Int} {W : World} {bn br : Nat} {fv : Value} {l : List (Ent × Nat)} (h : BankAt n0 Ba B limit es free W bn br fv l) : fv.ownBlock ≠ some bn ∧ fv.ownBlock ≠ some br ∧ fv.ownBlock ≠ some Ba := by
  obtain ⟨D1, ⟨e1, k1, hb1, _⟩, _⟩ := h.nums
  obtain ⟨D2, ⟨e2, k2, hb2, _⟩, _⟩ := h.recs
  obtain ⟨_, r⟩ := h.row
  rcases r with ⟨e', _⟩ | ⟨g, cap, cur, e', hb, hg, r⟩
  · subst e'
    simp [Value.ownBlock]
  · subst e'
    simp only [Value.ownBlock, ne_eq, Option.some.injEq]
    refine ⟨fun e => ?_, fun e => ?_, fun e => ?_⟩
    · rw [e, hb1] at hg; simp at hg
    · rw [e, hb2] at hg; simp at hg
    · rw [e, h.head] at hg; simp at hg

theorem numMap_some {es : List Ent} {e : Ent} (he : e ∈ es) : ∃ v, numMap es e.nd.val = some v := by
  classical
  unfold numMap
  cases hf : es.find? fun e' => decide (e'.nd.val = e.nd.val) with
  | none => exact absurd (by simp) (List.find?_eq_none.1 hf e he)
  | some x => exact ⟨_, rfl⟩

theorem wpList_delete_run {ops : Array Oper} {rest : List Oper} {op : Oper} {a : Act} {w w' : World} {Q : Exit → Act → World → Prop} (hgd : op.guard = none) (m x : Operand) (t k : TypeId) (ho : op.op = Op.call { callee := Callee.builtin Builtin.delete, args := #[m, x], argTypes := #[t, k] }) (mv kv : Value) (hm : a.eval m = mv) (hx : a.eval x = kv)
    (hrun : (Builtin.delete_ #[t, k] op.type #[mv, kv]).run Try.prog w = .ok (.tuple #[]) w') (h : wpList Try.prog ops Q rest (a.put op.dst (.tuple #[])) w') : wpList Try.prog ops Q (op :: rest) a w :=
  wpList_plain hgd fun _ hK => wp_delete_run m x t k ho mv kv hm hx hrun (hK _ _ h)

/-- The node is gone from both maps, its number is free: where the loop begins. -/
theorem sw_start {n0 Ba : Nat} {B : List Nat} {limit : Int} {es : List Ent} {free : List Int} {P : List Int} {W : World} {bn br : Nat} {fv : Value} {l : List (Ent × Nat)} (h : BankAt n0 Ba B limit es free W bn br fv l) (hBs : Bs es P) {x : Ent × Nat} (hx : x ∈ l) (hk : x.1.kept = 0) (hu : x.1.uses = 0) (hfl : free.length + es.length ≤ 1000000) {Wd W1 W2 W3 : World} (hd : Below W.heap.size W Wd) (g1 : Wd.grownBy W1 (some bn)) (M1 : MapIs W1 82 bn (del (numMap es) x.1.nd.val) (es.length - 1)) (g2 : W1.grownBy W2 (some br)) (M2 : MapIs W2 3 br (del (recMap l) (.int .i64 x.1.id)) (es.length - 1)) {g c : Nat} {free' : List Int} (hF : Fb W3 Ba limit bn br n0 g c free') (hl : free'.length = free.length + 1) (hO : Only (Ba :: fv.ownBlock.toList) W2 W3) (hg : fv.ownBlock = some g ∨ W2.heap.size ≤ g) : SwL n0 Ba B limit es (x.1.nd.args ++ P) x.1.id x.2 W W3 := by
  obtain ⟨m1, m2, m3⟩ := h.maps
  obtain ⟨o1, o2, o3⟩ := h.own_ne
  have hth := h.there
  have hmem : ∀ {r}, r = Ba ∨ r = bn ∨ r = br ∨ fv.ownBlock = some r ∨ (∃ x ∈ l, x.2 = r) → r ∈ B := fun {r} hr => by
    rw [h.mine]
    simp only [List.mem_cons, List.mem_append, Option.mem_toList, List.mem_map]
    exact hr
  have hOd : Only B W Wd := Only.of_below hd
  have h01 : Only B W W1 := hOd.trans (Only.of_grown (B := [bn]) g1 (fun r e => by cases e; simp)) (fun r hr => .inl (by obtain rfl := List.mem_singleton.1 hr; exact hmem (.inr (.inl rfl))))
  have h02 : Only B W W2 := h01.trans (Only.of_grown (B := [br]) g2 (fun r e => by cases e; simp)) (fun r hr => .inl (by obtain rfl := List.mem_singleton.1 hr; exact hmem (.inr (.inr (.inl rfl)))))
  have h03 : Only B W W3 := h02.trans hO (fun r hr => .inl (by
    rcases List.mem_cons.1 hr with rfl | hr
    · exact hmem (.inl rfl)
    · exact hmem (.inr (.inr (.inr (.inl (by simpa using hr)))))))
  have s2 := h02.size
  have blk : ∀ r, r < W.heap.size → r ≠ bn → r ≠ br → r ≠ Ba → fv.ownBlock ≠ some r → W3.heap[r]? = W.heap[r]? := fun r hr n1 n2 n3 n4 => by
    rw [hO.block r (by omega) (by simp only [List.mem_cons, Option.mem_toList, not_or]; exact ⟨n3, n4⟩), g2.block r (by have := h01.size; omega) (fun e => n2 (Option.some.inj e)), g1.block r (by have := hOd.size; omega) (fun e => n1 (Option.some.inj e)), hd.block r hr]
  have hbnl := h.nums.lt
  have hbrl := h.recs.lt
  have M1' : MapIs W3 82 bn (del (numMap es) x.1.nd.val) (es.length - 1) := M1.same (by
    rw [hO.block bn (by omega) (by simp only [List.mem_cons, Option.mem_toList, not_or]; exact ⟨m1, o1⟩), g2.block bn (by have := h01.size; omega) (fun e => h.apart (Option.some.inj e))])
  have M2' : MapIs W3 3 br (del (recMap l) (.int .i64 x.1.id)) (es.length - 1) := M2.same (hO.block br (by omega) (by simp only [List.mem_cons, Option.mem_toList, not_or]; exact ⟨m2, o2⟩))
  have each : ∀ y ∈ l, W3.heap[y.2]? = W.heap[y.2]? := fun y hy => by
    obtain ⟨q1, q2⟩ := h.rec_ne y hy
    obtain ⟨q3, q4⟩ := m3 y hy
    exact blk y.2 (hth _ (hmem (.inr (.inr (.inr (.inr ⟨y, hy, rfl⟩)))))) (fun e => q3 (by rw [e])) (fun e => q4 (by rw [e])) q1 q2
  have hxe : x.1 ∈ es := by rw [← h.ents]; exact List.mem_map_of_mem hx
  have hlen := (rem_occ hBs.1.nod hxe 0).2
  have hxl : x.2 < W.heap.size := hth _ (hmem (.inr (.inr (.inr (.inr ⟨x, hx, rfl⟩)))))
  obtain ⟨q1, q2⟩ := h.rec_ne x hx
  obtain ⟨q3, q4⟩ := m3 x hx
  refine ⟨_, free', _, ⟨bn, br, _, _, bank_rem h hBs.1 hx M1' M2' hF each⟩, Swp.start hBs hxe hk hu, by omega, by omega, fun r hr => ?_, fun hm => ?_, h03, each x hx, hxl⟩
  · simp only [List.mem_cons, List.mem_append, List.not_mem_nil, or_false, List.mem_map] at hr
    rcases hr with rfl | rfl | rfl | rfl | ⟨y, hy, rfl⟩
    · exact .inl (hmem (.inl rfl))
    · exact .inl (hmem (.inr (.inl rfl)))
    · exact .inl (hmem (.inr (.inr (.inl rfl))))
    · rcases hg with e | e
      · exact .inl (hmem (.inr (.inr (.inr (.inl e)))))
      · exact .inr (by omega)
    · exact .inl (hmem (.inr (.inr (.inr (.inr ⟨y, (mem_remL.1 hy).1, rfl⟩)))))
  · simp only [List.mem_cons, List.mem_append, List.not_mem_nil, or_false, List.mem_map] at hm
    rcases hm with e | e | e | e | ⟨y, hy, e⟩
    · exact q1 e
    · exact q3 (by rw [e])
    · exact q4 (by rw [e])
    · rcases hg with e2 | e2
      · exact q2 (by rw [e2, e])
      · omega
    · have := inj_of_nodup h.blks (mem_remL.1 hy).1 hx e
      exact (mem_remL.1 hy).2 (by rw [this])

theorem meas_lt (n k : Nat) (h : k < n) : n - (intOf (.int .i64 ((k : Int) + 1))).toNat < n - (intOf (.int .i64 (k : Int))).toNat := by
  simp [intOf]
  omega

theorem SwL.keep {n0 Ba : Nat} {B : List Nat} {limit : Int} {es : List Ent} {Q : List Int} {i : Int} {b : Nat} {W wr wr' : World} (h : SwL n0 Ba B limit es Q i b W wr) (hb : Below wr.heap.size wr wr') : SwL n0 Ba B limit es Q i b W wr' := by
  obtain ⟨es1, free1, B1, h1, h2, h3, h4, h5, h6, h7, h8, h9⟩ := h
  exact ⟨es1, free1, B1, h1.keep (fun r hr => hb.block r (h1.there r hr).2), h2, h3, h4, h5, h6, h7.trans (Only.of_below (B := []) hb) (by simp), (hb.block b (by have := h7.size; omega)).trans h8, h9⟩

/-- An argument: a use less, then it is swept. -/
theorem sw_step {n0 Ba : Nat} {B : List Nat} {limit : Int} {es : List Ent} {Q : List Int} {i a : Int} {b : Nat} {W wr : World} (hL : SwL n0 Ba B limit es (a :: Q) i b W wr) (hn : (es.map (·.id)).Nodup) : ∃ (br y : Nat) (u : Int) (es1 : List Ent) (free1 : List Int) (B1 : List Nat), wr.cell? ⟨Ba, 2, none⟩ = some (.map (some br)) ∧ (Instr.lookup 73 (.map (some br)) (.int .i64 a) false).run Try.prog wr = .ok (.pointer (some ⟨y, 0, none⟩)) wr ∧ wr.cell? ⟨y, 20, none⟩ = some (.int .i64 u) ∧ wr.frozen? ⟨y, 20, none⟩ = false ∧
    BankSt n0 Ba B1 limit es1 free1 (wr.setCell ⟨y, 20, none⟩ (.int .i64 (wrap64 (u - 1)))) ∧ Bs es1 Q ∧ a ∈ es1.map (·.id) ∧ es1.length < es.length ∧ free1.length + es1.length ≤ 1000000 ∧ ∀ e W6, SwP n0 Ba B1 limit es1 Q a (wr.setCell ⟨y, 20, none⟩ (.int .i64 (wrap64 (u - 1)))) e W6 → e = .returned (.tuple #[]) ∧ SwL n0 Ba B limit es Q i b W W6 := by
  obtain ⟨es1, free1, B1, ⟨bn, br, fv, l, h1⟩, h2, h3, h4, h5, h6, h7, h8, h9⟩ := hL
  have hids : l.map (·.1.id) = es1.map (·.id) := by rw [← h1.ents, List.map_map]; rfl
  have ha : a ∈ es1.map (·.id) := h2.bs.1.pnd a List.mem_cons_self
  obtain ⟨y, hy, hyi, hone, hrec⟩ := recMap_find l a (by rw [hids]; exact ha) (by rw [hids]; exact h2.bs.1.nod)
  have hye : y.1 ∈ es1 := by rw [← h1.ents]; exact List.mem_map_of_mem hy
  have hfit : Fit64 a := by rw [← hyi]; exact h2.bs.1.fit y.1 hye
  have hrc := h1.each y hy
  have hyB : y.2 ∈ B1 := by
    rw [h1.mine]
    simp only [List.mem_cons, List.mem_append, List.mem_map]
    exact .inr (.inr (.inr (.inr ⟨y, hy, rfl⟩)))
  have hbd := bank_dec h1 a y hy hyi hone
  refine ⟨br, y.2, y.1.uses, es1.map (decE a), free1, B1, h1.cells.2.2.1, ((h1.recs.look keyed3 Try.underlying73 (zero85 _) (key3 hfit)).1 _ hrec).2, ?_, by simp [World.frozen?, hrc], ⟨bn, br, fv, _, hbd⟩, h2.bs.dec, by rw [dec_ids]; exact ha, by rw [List.length_map]; exact h3, by rw [List.length_map]; exact h4, ?_⟩
  · rw [cell_of_row _ _ _ _ 84 (0, 0) hrc, List.getElem?_toArray]
    exact y.1.cells_uses
  · rintro e W6 ⟨rfl, es2, free2, B2, k1, k2, k3, k4, k5⟩
    have s7 := h7.size
    have s5 := k5.size
    have hsz : (wr.setCell ⟨y.2, 20, none⟩ (.int .i64 (wrap64 (y.1.uses - 1)))).heap.size = wr.heap.size := by simp
    have hl := k2.len
    rw [List.length_map] at hl
    have hO : Only B W W6 := (h7.trans (Only.of_grown (B := [y.2]) (World.grownBy_setCell_any wr y.2 20 _) (fun r e => by cases e; simp)) (fun r hr => by obtain rfl := List.mem_singleton.1 hr; exact h5 _ hyB)).trans k5 (fun r hr => h5 r hr)
    refine ⟨rfl, es2, free2, B2, k1, h2.next hn k2, by omega, k3, fun r hr => ?_, fun hm => ?_, hO, ?_, h9⟩
    · rcases k4 r hr with e | e
      · exact h5 r e
      · exact .inr (by omega)
    · rcases k4 b hm with e | e
      · exact h6 e
      · omega
    · rw [k5.block b (by omega) h6, Below.heap_setCell _ _ _ b (fun e => h6 (by rw [e]; exact hyB))]
      exact h8

set_option maxRecDepth 100000 in
set_option maxHeartbeats 4000000 in
theorem sweep_any (n0 Ba : Nat) (limit : Int) : ∀ (n : Nat) (es : List Ent) (free : List Int) (P : List Int) (i : Int) (B : List Nat) (W : World), es.length < n → BankSt n0 Ba B limit es free W → Bs es P → i ∈ es.map (·.id) → free.length + es.length ≤ 1000000 →
    Calls Try.prog 54 #[.pointer (some ⟨Ba, 0, none⟩), .int .i64 i] W (SwP n0 Ba B limit es P i W) := by
  intro n
  induction n with
  | zero => intro es free P i B W hn; exact absurd hn (Nat.not_lt_zero _)
  | succ n ih =>
  intro es free P i B W hn hb hBs hi hfl
  obtain ⟨bn, br, fv, l, hB⟩ := hb
  obtain ⟨c0, c1, c2, c3⟩ := hB.cells
  have hids : l.map (·.1.id) = es.map (·.id) := by rw [← hB.ents, List.map_map]; rfl
  obtain ⟨x, hx, hxi, hone, hrec⟩ := recMap_find l i (by rw [hids]; exact hi) (by rw [hids]; exact hBs.1.nod)
  have hxe : x.1 ∈ es := by rw [← hB.ents]; exact List.mem_map_of_mem hx
  have hrc := hB.each x hx
  have hfit : Fit64 i := by rw [← hxi]; exact hBs.1.fit x.1 hxe
  have hlk : (Instr.lookup 73 (.map (some br)) (.int .i64 i) false).run Try.prog W = .ok (.pointer (some ⟨x.2, 0, none⟩)) W := ((hB.recs.look keyed3 Try.underlying73 (zero85 _) (key3 hfit)).1 _ hrec).2
  have r19 : W.cell? ⟨x.2, 19, none⟩ = some (.int .i64 x.1.kept) := by rw [cell_of_row _ _ _ _ 84 (0, 0) hrc, List.getElem?_toArray]; exact x.1.cells_kept
  have r20 : W.cell? ⟨x.2, 20, none⟩ = some (.int .i64 x.1.uses) := by rw [cell_of_row _ _ _ _ 84 (0, 0) hrc, List.getElem?_toArray]; exact x.1.cells_uses
  have hk0 := hBs.1.kpt x.1 hxe
  have hu0 : 0 ≤ x.1.uses := by rw [hBs.1.use x.1 hxe]; omega
  obtain ⟨kp, hkp⟩ : ∃ k, x.1.kept = k := ⟨_, rfl⟩
  obtain ⟨us, hus⟩ : ∃ k, x.1.uses = k := ⟨_, rfl⟩
  rw [hkp] at r19 hk0
  rw [hus] at r20 hu0
  by_cases hh : 0 < kp ∨ 0 < us
  · have HE : Hid (SwP n0 Ba B limit es P i W (.returned (.tuple #[])) W) := ⟨rfl, es, free, B, ⟨bn, br, fv, l, hB⟩, by rw [← hxi]; exact Swp.none hBs hxe (by rw [hkp, hus]; exact hh), hfl, fun r hr => .inl hr, Only.refl _ _⟩
    clear ih hB hBs hids hone hrec hxe hrc hi hfl hx
    by_cases h1 : 0 < kp
    · go_enter Try.func54, Try.ntmps54
      go_wp2
      refine bodyPost_end (results_none rfl _ _ _) rfl ?_
      exact HE.out
    · have h2 : 0 < us := by omega
      go_enter Try.func54, Try.ntmps54
      go_wp2
      refine bodyPost_end (results_none rfl _ _ _) rfl ?_
      exact HE.out
  · obtain rfl : kp = 0 := by omega
    obtain rfl : us = 0 := by omega
    clear hh hk0 hu0
    have hfine := hBs.1.fine x.1 hxe
    obtain ⟨kl, hkl⟩ := x.1.nd.key hfine
    obtain ⟨Wd, hWd⟩ : ∃ X, W.drew = X := ⟨_, rfl⟩
    have hd : Below W.heap.size W Wd := by rw [← hWd]; exact (Below.refl _ W).drew
    have hth := hB.there
    have hmm : ∀ r ∈ B, Wd.heap[r]? = W.heap[r]? := fun r hr => hd.block r (hth r hr)
    have hBd := hB.keep hmm
    obtain ⟨nv, hnv⟩ := numMap_some hxe
    obtain ⟨W1, hrun1, M1, g1⟩ := hBd.nums.drop keyed82 Try.underlying72 hkl 0
    rw [hnv] at M1
    have hap := hB.apart
    have hR1 : MapIs W1 3 br (recMap l) es.length := hBd.recs.same (g1.block br hBd.recs.lt (fun e => hap (Option.some.inj e).symm))
    obtain ⟨W2, hrun2, M2, g2⟩ := hR1.drop keyed3 Try.underlying73 (key3 hfit) 0
    rw [hrec] at M2
    obtain ⟨m1, m2, m3⟩ := hB.maps
    obtain ⟨o1, o2, o3⟩ := hB.own_ne
    have hBaB : Ba ∈ B := by rw [hB.mine]; simp
    have hBal := hth Ba hBaB
    have sd := hd.size
    have s1 := g1.size
    have s2 := g2.size
    have k2 : ∀ r, r < W.heap.size → r ≠ bn → r ≠ br → W2.heap[r]? = W.heap[r]? := fun r hr n1 n2 => by
      rw [g2.block r (by omega) (fun e => n2 (Option.some.inj e)), g1.block r (by omega) (fun e => n1 (Option.some.inj e)), hd.block r hr]
    have hh2 : W2.heap[Ba]? = some (.cells [Value.int .i64 limit, .map (some bn), .map (some br), fv].toArray 76 (0, 0)) := (k2 Ba hBal (Ne.symm m1) (Ne.symm m2)).trans hB.head
    have hr2 : W2.ownsRow n0 3 1 fv free.length (free.map fun x => Value.int .i64 x) := row_keep hB.row (fun g hg => k2 g (hB.row.lt g (by simp [hg])).2 (fun e => o1 (by rw [hg, e])) (fun e => o2 (by rw [hg, e])))
    have hn0 : n0 ≤ W2.heap.size := by have := hB.low Ba hBaB; omega
    have hpush := hpush_any W2 hh2 hr2 o3 hn0 (by omega) i
    have HS : Hid (∀ W3 g c free', Fb W3 Ba limit bn br n0 g c free' → free'.length = free.length + 1 → Only (Ba :: fv.ownBlock.toList) W2 W3 → (fv.ownBlock = some g ∨ W2.heap.size ≤ g) → SwL n0 Ba B limit es (x.1.nd.args ++ P) i x.2 W W3) := fun W3 g c free' q1 q2 q3 q4 => by
      rw [← hxi]
      exact sw_start hB hBs hx hkp hus hfl hd g1 M1 g2 (by rw [hxi]; exact M2) q1 q2 q3 q4
    have hx2 := hth x.2 (by rw [hB.mine]; simp only [List.mem_cons, List.mem_append, List.mem_map]; exact .inr (.inr (.inr (.inr ⟨x, hx, rfl⟩))))
    have hxm := m3 x hx
    have c2b : W1.cell? ⟨Ba, 2, none⟩ = some (.map (some br)) := by
      have hq : W1.heap[Ba]? = W.heap[Ba]? := by rw [g1.block Ba (by omega) (fun e => m1 (Option.some.inj e).symm), hd.block Ba hBal]
      exact (cell_congr hq 2).trans c2
    obtain ⟨e, he⟩ : ∃ e, x.1 = e := ⟨_, rfl⟩
    have HX : Hid (∀ Z, Below W.heap.size W Z → Z.cell? ⟨Ba, 1, none⟩ = some (.map (some bn)) ∧ Z.heap[x.2]? = some (.cells x.1.cells.toArray 84 (0, 0))) := fun Z hZ => ⟨kc hZ hBal c1, (hZ.block _ hx2).trans hrc⟩
    have HRc : Hid (W.heap[x.2]? = some (.cells x.1.cells.toArray 84 (0, 0))) := hrc
    have HFi : Hid (x.1.nd.args.length ≤ 16) := hfine.len
    have HND : Hid ((es.map (·.id)).Nodup ∧ es.length < n + 1) := ⟨hBs.1.nod, hn⟩
    have HIH : Hid (∀ (es : List Ent) (free : List Int) (P : List Int) (i : Int) (B : List Nat) (W : World), es.length < n → BankSt n0 Ba B limit es free W → Bs es P → i ∈ es.map (·.id) → free.length + es.length ≤ 1000000 → Calls Try.prog 54 #[.pointer (some ⟨Ba, 0, none⟩), .int .i64 i] W (SwP n0 Ba B limit es P i W)) := ih
    have hHeld := hd
    clear ih hB hBd hBs hids hone hrec hxe hrc hi hfl hx hh2 hr2 hn0 M1 M2 g1 g2 hR1 hnv hmm hth he c0 c3 hkl
    go_enter Try.func54, Try.ntmps54
    go_wp2
    refine wp_region_last 8 (S := fun Z => Below W.heap.size W Z) (by kernel_rfl) ?_
    rw [hWd]
    refine wpLast_take 0 (.pointer (some ⟨Ba, 0, none⟩)) rfl (by kernel_rfl) (by kernel_rfl) (by kernel_rfl) (by kernel_rfl) (fun _ _ _ h => h) (Or.inl ⟨by rfl, fun Z hZ => by go_simp⟩) (by assumption) ?_
    try simp only [Act.put, List.setIfInBounds_toArray, List.set_cons_zero, List.set_cons_succ]
    refine wpLast_take 1 (.pointer (some ⟨Ba, 0, none⟩)) rfl (by kernel_rfl) (by kernel_rfl) (by kernel_rfl) (by kernel_rfl) (fun _ _ _ h => h) (Or.inl ⟨by rfl, fun Z hZ => by go_simp⟩) (by assumption) ?_
    try simp only [Act.put, List.setIfInBounds_toArray, List.set_cons_zero, List.set_cons_succ]
    refine wpLast_take 2 (.pointer (some ⟨Ba, 1, none⟩)) rfl (by kernel_rfl) (by kernel_rfl) (by kernel_rfl) (by kernel_rfl) (fun _ _ _ h => h) (Or.inl ⟨by rfl, fun Z hZ => by go_simp⟩) (by assumption) ?_
    try simp only [Act.put, List.setIfInBounds_toArray, List.set_cons_zero, List.set_cons_succ]
    refine wpLast_take 3 (.map (some bn)) rfl (by kernel_rfl) (by kernel_rfl) (by kernel_rfl) (by kernel_rfl) (fun _ _ _ h => h) (Or.inl ⟨by rfl, fun Z hZ => by obtain ⟨y0, y1⟩ := HX.out Z hZ; go_simp⟩) (by assumption) ?_
    try simp only [Act.put, List.setIfInBounds_toArray, List.set_cons_zero, List.set_cons_succ]
    refine wpLast_take 4 (.pointer (some ⟨x.2, 0, none⟩)) rfl (by kernel_rfl) (by kernel_rfl) (by kernel_rfl) (by kernel_rfl) (fun _ _ _ h => h) (Or.inl ⟨by rfl, fun Z hZ => by go_simp⟩) (by assumption) ?_
    try simp only [Act.put, List.setIfInBounds_toArray, List.set_cons_zero, List.set_cons_succ]
    refine wpLast_take 5 (.pointer (some ⟨x.2, 0, none⟩)) rfl (by kernel_rfl) (by kernel_rfl) (by kernel_rfl) (by kernel_rfl) (fun _ _ _ h => h) (Or.inl ⟨by rfl, fun Z hZ => by go_simp⟩) (by assumption) ?_
    try simp only [Act.put, List.setIfInBounds_toArray, List.set_cons_zero, List.set_cons_succ]
    refine wpLast_take 6 (.pointer (some ⟨x.2, 0, none⟩)) rfl (by kernel_rfl) (by kernel_rfl) (by kernel_rfl) (by kernel_rfl) (fun _ _ _ h => h) (Or.inl ⟨by rfl, fun Z hZ => by go_simp⟩) (by assumption) ?_
    try simp only [Act.put, List.setIfInBounds_toArray, List.set_cons_zero, List.set_cons_succ]
    refine wpLast_take 7 (x.1.nd.val) rfl (by kernel_rfl) (by kernel_rfl) (by kernel_rfl) (by kernel_rfl) (fun _ _ _ h => h) (Or.inl ⟨by rfl, fun Z hZ => by have y1 := load_rec_node (HX.out Z hZ).2; unfold execOp; simp only [Sem.run_bind, Sem.run_pure]; show ((Sem.run Try.prog (Instr.loadAt 82 (.pointer (some ⟨x.2, 0, none⟩))) Z).andThen _) = _; rw [y1]; rfl⟩) (by assumption) ?_
    try simp only [Act.put, List.setIfInBounds_toArray, List.set_cons_zero, List.set_cons_succ]
    refine wpLast_one (i := 8) (o := ⟨_, _, _, _, _, _⟩) (by kernel_rfl) rfl (fun KK hK => ?_)
    rw [if_pos (by rfl)]
    refine wp_delete_run _ _ 72 82 rfl (.map (some bn)) x.1.nd.val rfl rfl hrun1 ?_
    refine hK.out _ _ (fun h => absurd h (by omega)) ?_
    clear hK KK
    refine wpLast_done (by kernel_rfl) ?_ _
    try simp only [Act.put]
    clear hHeld hrun1 HX c1 c2 hlk r19 r20 hd
    go_wp2_with (refine wpList_delete_run rfl _ _ 73 3 rfl (.map (some br)) (.int .i64 i) rfl rfl hrun2 ?_)
    refine hpush.mono ?_
    rintro e' W3 ⟨rfl, g, c, free', q1, q2, q3, q4⟩
    have hL := HS.out W3 g c free' q1 q2 q3 q4
    clear hpush hrun2 c2b q1 q2 q3 q4 HS
    have hrc3 : W3.heap[x.2]? = some (.cells x.1.cells.toArray 84 (0, 0)) := by
      obtain ⟨_, _, _, _, _, _, _, _, _, _, h9, _⟩ := hL
      exact h9.trans HRc.out
    obtain ⟨_, _, r2, _⟩ := rec_cells hrc3
    have hargs := arguments_any x.2 x.1.nd.args.length W3 r2 HFi.out
    have HL : Hid (SwL n0 Ba B limit es (x.1.nd.args ++ P) i x.2 W W3) := hL
    clear hL hrc3 r2
    go_wp2_with fail
    refine hargs.mono ?_
    rintro e' W4 ⟨rfl, q, rfl⟩
    have HL4 : Hid (SwL n0 Ba B limit es (x.1.nd.args.drop 0 ++ P) i x.2 W (W3.drewN q)) := by
      have := HL.out.keep (below_drewN (Below.refl _ _) q)
      show SwL n0 Ba B limit es (x.1.nd.args.drop 0 ++ P) i x.2 W (W3.drewN q)
      rw [List.drop_zero]
      exact this
    obtain ⟨W4, hW4⟩ : ∃ X, W3.drewN q = X := ⟨_, rfl⟩
    rw [hW4] at HL4 ⊢
    clear hargs HL hW4
    obtain ⟨args, hargs⟩ : ∃ a, x.1.nd.args = a := ⟨_, rfl⟩
    have HRa : Hid (∀ Z : World, Z.heap[x.2]? = W.heap[x.2]? → ∀ k (hk : k < args.length), Z.cell? ⟨x.2, 3 + k, none⟩ = some (.int .i64 args[k])) := fun Z hZ k hk => by
      obtain ⟨_, _, _, r3⟩ := rec_cells (hZ.trans HRc.out)
      have := r3 k (by rw [hargs]; exact hk) HFi.out
      simpa only [hargs] using this
    rw [hargs] at HL4 HFi ⊢
    obtain ⟨b, hb⟩ : ∃ b, x.2 = b := ⟨_, rfl⟩
    rw [hb] at HL4 HRa ⊢
    clear hargs HRc hb
    go_wp2
    go_loopw [50] (fun vi wr => ∃ k : Nat, vi = .int .i64 k ∧ k ≤ args.length ∧ Hid (SwL n0 Ba B limit es (args.drop k ++ P) i b W wr)) (fun vi _ => args.length - (intOf vi).toNat)
    case atStart => exact ⟨0, rfl, Nat.zero_le _, HL4.out⟩
    case round =>
      obtain ⟨k, rfl, hk, HI⟩ := hrel
      clear HL4
      by_cases hlt : k < args.length
      · have hkI : (k : Int) < (args.length : Int) := by omega
        have hk0 : (0 : Int) ≤ (k : Int) := by omega
        have hI := HI.out
        rw [List.drop_eq_getElem_cons hlt, List.cons_append] at hI
        have hblk : wr.heap[b]? = W.heap[b]? := by obtain ⟨_, _, _, _, _, _, _, _, _, _, h8, _⟩ := hI; exact h8
        have ck := HRa.out wr hblk k hlt
        obtain ⟨a, ha⟩ : ∃ a, args[k] = a := ⟨_, rfl⟩
        rw [ha] at hI ck
        obtain ⟨br2, y, u, es1, free1, B1, d1, d2, d3, d4, s1, s2, s3, s4, s5, s6⟩ := sw_step hI HND.out.1
        obtain ⟨W5, hW5⟩ : ∃ X, wr.setCell ⟨y, 20, none⟩ (.int .i64 (wrap64 (u - 1))) = X := ⟨_, rfl⟩
        rw [hW5] at s1 s6
        have hcall := HIH.out es1 free1 (args.drop (k + 1) ++ P) a B1 W5 (by have := HND.out.2; omega) s1 s2 s3 s5
        have HN : Hid (∀ e W6, SwP n0 Ba B1 limit es1 (args.drop (k + 1) ++ P) a W5 e W6 → e = .returned (.tuple #[]) ∧ SwL n0 Ba B limit es (args.drop (k + 1) ++ P) i b W W6) := s6
        have HLt : Hid (k < args.length ∧ args.length ≤ 16) := ⟨hlt, HFi.out⟩
        clear s1 s2 s3 s4 s5 s6 hI hblk ha HI
        go_wp2_with fail
        refine hcall.mono ?_
        intro e' W6 hP
        obtain ⟨rfl, hL6⟩ := HN.out e' W6 hP
        have HL6 : Hid (SwL n0 Ba B limit es (args.drop (k + 1) ++ P) i b W W6) := hL6
        clear hcall hP hL6 HN hW5 d1 d2 d3 d4 ck
        have hw1 : wrap64 ((k : Int) + 1) = (k : Int) + 1 := by have := HLt.out; unfold wrap64; omega
        go_wp2
        go_roundw
        case rel => exact ⟨k + 1, by rw [hw1, Int.natCast_add]; rfl, HLt.out.1, HL6⟩
        case measure =>
          rw [hw1]
          exact meas_lt _ _ HLt.out.1
      · have hkI : ¬ (k : Int) < (args.length : Int) := by omega
        have hke : k = args.length := by omega
        have HE : Hid (SwP n0 Ba B limit es P i W (.returned (.tuple #[])) wr) := by
          obtain ⟨es1, free1, B1, h1, h2, h3, h4, h5, h6, h7, h8, h9⟩ := HI.out
          rw [hke, List.drop_length, List.nil_append] at h2
          exact ⟨rfl, es1, free1, B1, h1, h2, h4, h5, h7⟩
        clear HI hke
        go_wp2
        refine bodyPost_end (results_none rfl _ _ _) rfl ?_
        exact HE.out

end Go.Proofs.Ytbbfpllffcfmhaa
