import Derived.Test.YtbbfpllffcfmhaaXF
import Derived.Test.YtbbfpllffcfmhaaZA

/-
  enter, whatever numbers are free.
-/
namespace Go.Proofs.Ytbbfpllffcfmhaa
open Go.RowKit Go.Maps

/-- The bank behind both stores. -/
theorem bank_putF {n0 Ba : Nat} {B : List Nat} {limit : Int} {es : List Ent} {free : List Int} {W6 W7 W8 W9 : World} {bn br : Nat} {fv : Value} {l : List (Ent × Nat)} (h : BankAt n0 Ba B limit es free W6 bn br fv l) (e : Ent) (R : Nat) (hno : entOf es e.nd = none) (hid : ∀ x ∈ es, x.id ≠ e.id)
    (hM : MapIs W7 82 bn (upd (numMap es) e.nd.val (.int .i64 e.id)) (es.length + 1)) (hg : W6.grownBy W7 (some bn)) (h78 : ∀ r, r < W7.heap.size → W8.heap[r]? = W7.heap[r]?) (hs : W7.heap.size ≤ R) (hR : W8.heap[R]? = some (.cells e.cells.toArray 84 (0, 0)))
    (hM9 : MapIs W9 3 br (upd (recMap l) (.int .i64 e.id) (.pointer (some ⟨R, 0, none⟩))) (es.length + 1)) (hg9 : W8.grownBy W9 (some br)) (hn0 : n0 ≤ R) : BankAt n0 Ba (B ++ [R]) limit (es ++ [e]) free W9 bn br fv (l ++ [(e, R)]) := by
  obtain ⟨m1, m2, m3⟩ := h.maps
  obtain ⟨r1, r2⟩ := h.row_ne
  have hth := h.there
  have hmine := h.mine
  have hk : ∀ r ∈ B, r ≠ bn → r ≠ br → W9.heap[r]? = W6.heap[r]? := fun r hr h1 h2 => by
    have a1 := hg.block r (hth r hr) (fun e => h1 (Option.some.inj e))
    have l7 : r < W7.heap.size := Nat.lt_of_lt_of_le (hth r hr) hg.size
    have a2 := h78 r l7
    have l8 : r < W8.heap.size := Nat.lt_of_lt_of_le (Nat.lt_of_lt_of_le l7 hs) (Nat.le_of_lt (Array.getElem?_eq_some_iff.1 hR).1)
    exact (hg9.block r l8 (fun e => h2 (Option.some.inj e))).trans (a2.trans a1)
  have hB : ∀ {r}, r = Ba ∨ r = bn ∨ r = br ∨ fv.ownBlock = some r ∨ (∃ x ∈ l, x.2 = r) → r ∈ B := fun {r} hr => by
    rw [hmine]
    simp only [List.mem_cons, List.mem_append, Option.mem_toList, List.mem_map]
    exact hr
  have hbn7 : bn < W7.heap.size := hM.lt
  have hbn8 : W9.heap[bn]? = W7.heap[bn]? := (hg9.block bn (Nat.lt_of_lt_of_le (Nat.lt_of_lt_of_le hbn7 hs) (Nat.le_of_lt (Array.getElem?_eq_some_iff.1 hR).1)) (fun e => h.apart (Option.some.inj e))).trans (h78 bn hbn7)
  have hRr : R ≠ br := fun e => by
    have := hth br (hB (.inr (.inr (.inl rfl))))
    have := hg.size
    omega
  refine { ents := by rw [List.map_append, h.ents]; rfl, head := (hk Ba (hB (.inl rfl)) (Ne.symm m1) (Ne.symm m2)).trans h.head, nums := ?_, recs := ?_, each := ?_, row := row_keep h.row (fun g hg' => hk g (hB (.inr (.inr (.inr (.inl hg'))))) (fun e => r1 (e ▸ hg')) (fun e => r2 (e ▸ hg'))), apart := h.apart, blks := ?_, mine := ?_, low := ?_ }
  · rw [numMap_snoc es e hno, List.length_append]
    exact hM.same hbn8
  · rw [recMap_snoc l e R (fun x hx => hid x.1 (by rw [← h.ents]; exact List.mem_map_of_mem hx)), List.length_append]
    exact hM9
  · intro x hx
    rcases List.mem_append.1 hx with hx | hx
    · exact (hk x.2 (hB (.inr (.inr (.inr (.inr ⟨x, hx, rfl⟩))))) (m3 x hx).1 (m3 x hx).2).trans (h.each x hx)
    · cases List.mem_singleton.1 hx
      exact (hg9.block R (Array.getElem?_eq_some_iff.1 hR).1 (fun e => hRr (Option.some.inj e))).trans hR
  · rw [List.map_append, List.nodup_append]
    refine ⟨h.blks, by simp, ?_⟩
    intro a ha b hb
    have hb' : b = R := by simpa using hb
    obtain ⟨x, hx, rfl⟩ := List.mem_map.1 ha
    have := hth x.2 (hB (.inr (.inr (.inr (.inr ⟨x, hx, rfl⟩)))))
    have := hg.size
    omega
  · rw [hmine]
    simp
  · intro r hr
    rcases List.mem_append.1 hr with hr | hr
    · exact h.low r hr
    · cases List.mem_singleton.1 hr
      exact hn0

set_option maxRecDepth 100000 in
set_option maxHeartbeats 2000000 in
/-- enter at a node that is not there, whatever numbers are free. -/
theorem enter_gen (n0 Ba : Nat) (B : List Nat) (limit : Int) (es : List Ent) (free : List Int) (W : World) (bn br : Nat) (fv : Value) (l : List (Ent × Nat)) (nd : Nd) (kl : Lit) (id : Int) (Q : List Int → Prop) (h : BankAt n0 Ba B limit es free W bn br fv l) (hfine : nd.Fine) (hkl : keyOf Try.prog 82 nd.val = some kl) (hno : entOf es nd = none) (hcnt : es.length ≤ 1073741824) (hn0 : n0 ≤ W.heap.size) (hid : ∀ e ∈ es, e.id ≠ id) (hnod : (es.map (·.id)).Nodup) (hin : ∀ a ∈ nd.args, a ∈ es.map (·.id)) (hfit : Fit64 id)
    (hleast : ∀ X, BankAt n0 Ba B limit es free X bn br fv l → Calls Try.prog 67 #[.pointer (some ⟨Ba, 0, none⟩)] X fun e X' => ∃ free' fv', e = .returned (.int .i64 id) ∧ BankAt n0 Ba B limit es free' X' bn br fv' l ∧ Q free' ∧ Only B X X') :
    Calls Try.prog 50 #[.pointer (some ⟨Ba, 0, none⟩), nd.val] W fun e W' => e = .returned (.int .i64 id) ∧ ∃ B' free', BankSt n0 Ba B' limit (bumps nd.args (es ++ [⟨id, nd, 0, 0⟩])) free' W' ∧ Q free' ∧ (∀ r ∈ B', r ∈ B ∨ W.heap.size ≤ r) ∧ Only B W W' := by
  have hl19 : nd.cells.length = 19 := ndCells_len _ _ _ _
  have hb := below_box W (.cells nd.cells.toArray 82)
  have hbx : ∀ q, ((W.alloc (.cells nd.cells.toArray 82)).drewN q).heap[W.heap.size]? = some (.cells nd.cells.toArray 82 (0, 0)) := fun q => ((below_drewN (Below.refl (W.heap.size + 1) _) q).block _ (Nat.lt_succ_self _)).trans (MapKept.heap_alloc W _).1
  have h1 : ∀ q, BankAt n0 Ba B limit es free ((W.alloc (.cells nd.cells.toArray 82)).drewN q) bn br fv l := fun q => h.keep (fun r hr => (below_drewN hb q).block r (h.there r hr))
  have hnB : ∀ r ∈ B, r ≠ W.heap.size := fun r hr e => by have := h.there r hr; omega
  obtain ⟨_, c1, c2, c3⟩ := (h1 0).cells
  have hlk : ∀ q, (Instr.lookup 72 (.map (some bn)) (.agg nd.cells.toArray) true).run Try.prog ((W.alloc (.cells nd.cells.toArray 82)).drewN q) = .ok (.tuple #[.int .i64 0, .bool false]) ((W.alloc (.cells nd.cells.toArray 82)).drewN q) := fun q => ((((h1 q).nums).look keyed82 Try.underlying72 (zero3 _) hkl).2 (by rw [numMap_ent, hno]; rfl)).1
  have hc1 : (W.alloc (.cells nd.cells.toArray 82)).cell? ⟨Ba, 1, none⟩ = some (.map (some bn)) := c1
  clear c1 c2 c3
  go_enter Try.func50, Try.ntmps50
  go_wp2
  generalize W.alloc (.cells nd.cells.toArray 82) = W1 at *
  refine wp_region_quiet_lit (by kernel_rfl) (by kernel_rfl) ?_
  repeat (first | (refine wpQuiet_load_node rfl _ rfl W.heap.size rfl nd.cells hl19 (fun w ⟨q, hq⟩ => by rw [hq]; exact hbx q) ?_) | quiet_step (fail))
  refine wpQuiet_nil ?_
  intro _ hw'
  obtain ⟨nq, hw''⟩ := hw'
  subst hw''
  have hbxq := hbx nq
  have h1q := h1 nq
  have hb1 := below_drewN hb nq
  generalize W1.drewN nq = W2 at *
  obtain ⟨_, fn1, _, _, _⟩ := nd_cell hbxq
  have hclone := (sclone_any nd.fn W2 hfine.fn).mono (R' := fun e W' => e = .returned (.string nd.fn) ∧ W'.cell? ⟨W.heap.size, 1, none⟩ = some (.string nd.fn) ∧ W'.frozen? ⟨W.heap.size, 1, none⟩ = false ∧ Hid ((W'.setCell ⟨W.heap.size, 1, none⟩ (.string nd.fn)).heap[W.heap.size]? = some (.cells nd.cells.toArray 82 (0, 0)) ∧ BankAt n0 Ba B limit es free (W'.setCell ⟨W.heap.size, 1, none⟩ (.string nd.fn)) bn br fv l ∧ Below W.heap.size W (W'.setCell ⟨W.heap.size, 1, none⟩ (.string nd.fn)))) (by
    rintro e W' ⟨he, hbc⟩
    have hx : W'.heap[W.heap.size]? = some (.cells nd.cells.toArray 82 (0, 0)) := (hbc.block _ (Array.getElem?_eq_some_iff.1 hbxq).1).trans hbxq
    obtain ⟨_, g1, _, g3, _⟩ := nd_cell hx
    have hg := World.grownBy_setCell_any W' W.heap.size 1 (.string nd.fn)
    have hbW' : BankAt n0 Ba B limit es free W' bn br fv l := h1q.keep (fun r hr => hbc.block r (h1q.there r hr))
    exact ⟨he, g1, g3 1, set_fn hx, hbW'.keep (fun r hr => hg.block r (hbW'.there r hr) (fun e => hnB r hr (Option.some.inj e))), hb1.trans ((hbc.mono hb1.size).trans ((Below.refl _ _).setCell (p := ⟨W.heap.size, 1, none⟩) (Nat.le_refl _) _))⟩)
  clear h1 hlk hbx hc1 hb h
  go_wp2_with (first
    | (go_at_call 66; refine hclone.mono ?_; rintro e W3 ⟨rfl, k1, k2, HB⟩)
    | (go_at_call 67; refine (hleast _ HB.2.1).mono ?_; rintro e W5 ⟨free', fv', rfl, hBk, hQ, o4⟩))
  obtain ⟨hN0, hBk0, hBe0⟩ : _ ∧ _ ∧ _ := HB
  have hN : W5.heap[W.heap.size]? = some (.cells nd.cells.toArray 82 (0, 0)) := (o4.block _ (Array.getElem?_eq_some_iff.1 hN0).1 (fun hm => hnB _ hm rfl)).trans hN0
  have hOe : Only B W W5 := (Only.of_below (B := B) hBe0).trans o4 (fun r hr => .inl hr)
  clear hclone k1 k2 h1q hb1 hbxq hleast hN0 hBk0 hBe0 o4
  have hdr : ∀ k : Nat, k < W5.heap.size → W5.drew.heap[k]? = W5.heap[k]? := fun k hk => (below_drewN (Below.refl W5.heap.size W5) 1).block k hk
  have hN6 : W5.drew.heap[W.heap.size]? = some (.cells nd.cells.toArray 82 (0, 0)) := (hdr _ (Array.getElem?_eq_some_iff.1 hN).1).trans hN
  have hBk6 : BankAt n0 Ba B limit es free' W5.drew bn br fv' l := hBk.keep (fun r hr => hdr r (hBk.there r hr))
  have hOe6 : Only B W W5.drew := hOe.trans (Only.of_below (B := B) (below_drewN (Below.refl W5.heap.size W5) 1)) (fun r hr => .inl hr)
  obtain ⟨W7, hrun, hM, hg⟩ := hBk6.nums.put keyed82 Try.underlying72 (by unfold maxLen; omega) hkl (.int .i64 id)
  obtain ⟨_, c1, c2, c3⟩ := hBk6.cells
  have hmine := hBk6.mine
  have hne2 : bn ≠ W.heap.size := hnB bn (by rw [hmine]; simp)
  have hne1 : bn ≠ Ba := hBk6.maps.1
  have hBa7 := hg.block Ba (Array.getElem?_eq_some_iff.1 hBk6.head).1 (fun e => hne1 (Option.some.inj e).symm)
  have c1' : W7.cell? ⟨Ba, 1, none⟩ = some (.map (some bn)) := (cell_congr hBa7 1).trans c1
  have c2' : W7.cell? ⟨Ba, 2, none⟩ = some (.map (some br)) := (cell_congr hBa7 2).trans c2
  have hN7 : W7.heap[W.heap.size]? = some (.cells nd.cells.toArray 82 (0, 0)) := (hg.block _ (Array.getElem?_eq_some_iff.1 hN6).1 (fun e => hne2 (Option.some.inj e).symm)).trans hN6
  refine wp_region_held_drew (S := fun w => w.cell? ⟨Ba, 1, none⟩ = some (.map (some bn)) ∧ w.heap[W.heap.size]? = some (.cells nd.cells.toArray 82 (0, 0))) (by kernel_rfl) ⟨c1, hN6⟩ (fun hHeld => ?_)
  refine take_mk 0 (.pointer (some ⟨Ba, 0, none⟩)) rfl (by kernel_rfl) (by kernel_rfl) (by kernel_rfl) (fun _ _ _ h => h) (Or.inl ⟨by rfl, fun w hSw => by go_simp⟩) (by assumption) ?_
  simp only [Act.put, List.setIfInBounds_toArray, List.set_cons_zero, List.set_cons_succ]
  refine take_mk 1 (.pointer (some ⟨Ba, 0, none⟩)) rfl (by kernel_rfl) (by kernel_rfl) (by kernel_rfl) (fun _ _ _ h => h) (Or.inl ⟨by rfl, fun w hSw => by go_simp⟩) (by assumption) ?_
  simp only [Act.put, List.setIfInBounds_toArray, List.set_cons_zero, List.set_cons_succ]
  refine take_mk 2 (.pointer (some ⟨Ba, 1, none⟩)) rfl (by kernel_rfl) (by kernel_rfl) (by kernel_rfl) (fun _ _ _ h => h) (Or.inl ⟨by rfl, fun w hSw => by go_simp⟩) (by assumption) ?_
  simp only [Act.put, List.setIfInBounds_toArray, List.set_cons_zero, List.set_cons_succ]
  refine take_mk 3 (.map (some bn)) rfl (by kernel_rfl) (by kernel_rfl) (by kernel_rfl) (fun _ _ _ h => h) (Or.inl ⟨by rfl, fun w hSw => by have := hSw.1; go_simp⟩) (by assumption) ?_
  simp only [Act.put, List.setIfInBounds_toArray, List.set_cons_zero, List.set_cons_succ]
  refine take_mk 4 (.agg nd.cells.toArray) rfl (by kernel_rfl) (by kernel_rfl) (by kernel_rfl) (fun _ _ _ h => h) (yieldsIf_load_node (by rfl) _ rfl W.heap.size rfl nd.cells hl19 (fun w hSw => hSw.2)) (by assumption) ?_
  simp only [Act.put, List.setIfInBounds_toArray, List.set_cons_zero, List.set_cons_succ]
  refine take_mk 5 (.int .i64 id) rfl (by kernel_rfl) (by kernel_rfl) (by kernel_rfl) (fun _ _ _ h => h) (Or.inl ⟨by rfl, fun w hSw => by go_simp⟩) (by assumption) ?_
  simp only [Act.put, List.setIfInBounds_toArray, List.set_cons_zero, List.set_cons_succ]
  refine wpAnyH_ready (rs := [6]) (by kernel_rfl) (by simp) (AllReadyH.cons (o := ⟨_, _, _, _, _, _⟩) rfl (fun K hK => ?_) AllReadyH.nil)
  rw [if_pos (by rfl)]
  refine wp_mapUpdate_run 72 _ _ _ rfl (.map (some bn)) (.agg nd.cells.toArray) (.int .i64 id) rfl rfl rfl hrun ?_
  refine hK.out _ _ ⟨c1', hN7⟩ (fun hHeld => ?_)
  clear hK K
  refine wpAnyH_done (by kernel_rfl) ?_ _
  simp only [Act.put]
  go_wp2
  obtain ⟨ent, hent⟩ : ∃ ent : Ent, ent = ⟨id, nd, 0, 0⟩ := ⟨_, rfl⟩
  have hec : ent.cells = nd.cells ++ [Value.int .i64 0, Value.int .i64 0] := by rw [hent]; rfl
  have hnd : ent.nd = nd := by rw [hent]
  have hei : ent.id = id := by rw [hent]
  have hsz : W7.drew.heap.size = W7.heap.size := rfl
  have hd7 : ∀ k : Nat, k < W7.heap.size → W7.drew.heap[k]? = W7.heap[k]? := fun k hk => (below_drewN (Below.refl W7.heap.size W7) 1).block k hk
  have hb8 := below_box W7.drew (.cells ent.cells.toArray 84)
  have h78 : ∀ r, r < W7.heap.size → (W7.drew.alloc (.cells ent.cells.toArray 84)).heap[r]? = W7.heap[r]? := fun r hr => (hb8.block r hr).trans (hd7 r hr)
  have hR8 : (W7.drew.alloc (.cells ent.cells.toArray 84)).heap[W7.heap.size]? = some (.cells ent.cells.toArray 84 (0, 0)) := (MapKept.heap_alloc W7.drew _).1
  have hb7 : BankAt n0 Ba B limit es free' W5.drew bn br fv' l := hBk6
  have hbr7 : br < W7.heap.size := Nat.lt_of_lt_of_le hb7.recs.lt hg.size
  have hrec8 : MapIs (W7.drew.alloc (.cells ent.cells.toArray 84)) 3 br (recMap l) es.length := hb7.recs.same ((h78 br hbr7).trans (hg.block br hb7.recs.lt (fun e => hb7.apart (Option.some.inj e).symm)))
  have hidl : ∀ x ∈ l, x.1.id ≠ id := fun x hx => hid x.1 (by rw [← hb7.ents]; exact List.mem_map_of_mem hx)
  obtain ⟨W9, hrun9, hM9, hg9⟩ := hrec8.put keyed3 Try.underlying73 (by unfold maxLen; omega) (key3 (a := id) hfit) (.pointer (some ⟨W7.heap.size, 0, none⟩))
  rw [recMap_none l _ hidl] at hM9
  have hM' : MapIs W7 82 bn (upd (numMap es) ent.nd.val (.int .i64 ent.id)) (es.length + 1) := by
    rw [numMap_ent, hno] at hM
    rw [hnd, hei]
    exact hM
  have hlt7 := Nat.lt_of_lt_of_le (Array.getElem?_eq_some_iff.1 hN6).1 hg.size
  have hB9 := bank_putF hb7 ent W7.heap.size (by rw [hnd]; exact hno) (fun x hx => by rw [hei]; exact hid x hx) hM' hg h78 (Nat.le_refl _) hR8 (by rw [hei]; exact hM9) hg9 (by omega)
  have hbrN : br ≠ W.heap.size := hnB br (by rw [hmine]; simp)
  have hN8 := (h78 _ hlt7).trans hN7
  have hN9 : W9.heap[W.heap.size]? = some (.cells nd.cells.toArray 82 (0, 0)) := (hg9.block _ (Array.getElem?_eq_some_iff.1 hN8).1 (fun e => hbrN (Option.some.inj e).symm)).trans hN8
  obtain ⟨_, _, c29, _⟩ := hB9.cells
  have hO9 : Only B W W9 := by
    have o1 : Only B W W5.drew := hOe6
    have o2 : Only B W5.drew W7 := Only.of_grown hg (fun r e => by cases e; rw [hmine]; simp)
    have o3 : Only B W7 (W7.drew.alloc (.cells ent.cells.toArray 84)) := Only.of_below ((below_drewN (Below.refl W7.heap.size W7) 1).trans hb8)
    have o4 : Only B (W7.drew.alloc (.cells ent.cells.toArray 84)) W9 := Only.of_grown hg9 (fun r e => by cases e; rw [hmine]; simp)
    exact ((o1.trans o2 (fun r hr => .inl hr)).trans o3 (fun r hr => .inl hr)).trans o4 (fun r hr => .inl hr)
  have hBa7l := Nat.lt_of_lt_of_le (Array.getElem?_eq_some_iff.1 hb7.head).1 hg.size
  refine wp_region_held_drew (S := fun w => w.cell? ⟨Ba, 2, none⟩ = some (.map (some br)) ∧ w.heap[W.heap.size]? = some (.cells nd.cells.toArray 82 (0, 0))) (by kernel_rfl) ⟨(cell_congr (hd7 Ba hBa7l) 2).trans c2', (hd7 _ hlt7).trans hN7⟩ (fun hHeld => ?_)
  generalize W7.drew = W8 at *
  refine take_mk 0 (.pointer (some ⟨Ba, 0, none⟩)) rfl (by kernel_rfl) (by kernel_rfl) (by kernel_rfl) (fun _ _ _ h => h) (Or.inl ⟨by rfl, fun w hSw => by go_simp⟩) (by assumption) ?_
  simp only [Act.put, List.setIfInBounds_toArray, List.set_cons_zero, List.set_cons_succ]
  refine take_mk 1 (.pointer (some ⟨Ba, 0, none⟩)) rfl (by kernel_rfl) (by kernel_rfl) (by kernel_rfl) (fun _ _ _ h => h) (Or.inl ⟨by rfl, fun w hSw => by go_simp⟩) (by assumption) ?_
  simp only [Act.put, List.setIfInBounds_toArray, List.set_cons_zero, List.set_cons_succ]
  refine take_mk 2 (.pointer (some ⟨Ba, 2, none⟩)) rfl (by kernel_rfl) (by kernel_rfl) (by kernel_rfl) (fun _ _ _ h => h) (Or.inl ⟨by rfl, fun w hSw => by go_simp⟩) (by assumption) ?_
  simp only [Act.put, List.setIfInBounds_toArray, List.set_cons_zero, List.set_cons_succ]
  refine take_mk 3 (.map (some br)) rfl (by kernel_rfl) (by kernel_rfl) (by kernel_rfl) (fun _ _ _ h => h) (Or.inl ⟨by rfl, fun w hSw => by have := hSw.1; go_simp⟩) (by assumption) ?_
  simp only [Act.put, List.setIfInBounds_toArray, List.set_cons_zero, List.set_cons_succ]
  refine take_mk 4 (.int .i64 id) rfl (by kernel_rfl) (by kernel_rfl) (by kernel_rfl) (fun _ _ _ h => h) (Or.inl ⟨by rfl, fun w hSw => by go_simp⟩) (by assumption) ?_
  simp only [Act.put, List.setIfInBounds_toArray, List.set_cons_zero, List.set_cons_succ]
  refine take_mk 5 (.agg nd.cells.toArray) rfl (by kernel_rfl) (by kernel_rfl) (by kernel_rfl) (fun _ _ _ h => h) (yieldsIf_load_node (by rfl) _ rfl W.heap.size rfl nd.cells hl19 (fun w hSw => hSw.2)) (by assumption) ?_
  simp only [Act.put, List.setIfInBounds_toArray, List.set_cons_zero, List.set_cons_succ]
  refine take_mk 6 (.agg (nd.cells ++ [Value.int .i64 0, Value.int .i64 0]).toArray) rfl (by kernel_rfl) (by kernel_rfl) (by kernel_rfl) (fun _ _ _ h => h) (yieldsIf_build_record (by rfl) _ rfl nd.cells hl19 rfl) (by assumption) ?_
  simp only [Act.put, List.setIfInBounds_toArray, List.set_cons_zero, List.set_cons_succ]
  rw [← hec]
  refine wpAnyH_ready (rs := [7]) (by kernel_rfl) (by simp) (AllReadyH.cons (o := ⟨_, _, _, _, _, _⟩) rfl (fun K hK => ?_) AllReadyH.nil)
  rw [if_pos (by rfl)]
  have HEnt : Hid (ent = ⟨id, nd, 0, 0⟩) := hent
  clear hent hec
  go_simp
  refine hK.out _ _ ⟨(cell_congr (h78 Ba hBa7l) 2).trans c2', hN8⟩ (fun hHeld => ?_)
  clear hK K
  refine wpAnyH_ready (rs := [8]) (by kernel_rfl) (by simp) (AllReadyH.cons (o := ⟨_, _, _, _, _, _⟩) rfl (fun K hK => ?_) AllReadyH.nil)
  rw [if_pos (by rfl)]
  refine wp_mapUpdate_run 73 _ _ _ rfl (.map (some br)) (.int .i64 id) (.pointer (some ⟨W7.heap.size, 0, none⟩)) rfl rfl rfl hrun9 ?_
  refine hK.out _ _ ⟨c29, hN9⟩ (fun hHeld => ?_)
  clear hK K
  refine wpAnyH_done (by kernel_rfl) ?_ _
  simp only [Act.put]
  obtain ⟨_, _, hargc, _, hargs⟩ := nd_cell hN9
  go_wp2_with (first
    | (go_at_call 68; refine (arguments_any _ _ _ hargc hfine.len).mono ?_; rintro e W10 ⟨rfl, q9, rfl⟩))
  clear hmine
  go_loopw [43] (fun i wr => ∃ k : Nat, k ≤ nd.args.length ∧ i = .int .i64 k ∧ Hid (∃ l', BankAt n0 Ba (B ++ [W7.heap.size]) limit (bumps (nd.args.take k) (es ++ [ent])) free' wr bn br fv' l' ∧ wr.heap[W.heap.size]? = some (.cells nd.cells.toArray 82 (0, 0)) ∧ Only B W wr)) (fun i _ => nd.args.length - (intOf i).toNat)
  case atStart =>
    have hq := below_drewN (Below.refl W9.heap.size W9) q9
    exact ⟨0, Nat.zero_le _, rfl, _, hB9.keep (fun r hr => hq.block r (hB9.there r hr)), (hq.block _ (Array.getElem?_eq_some_iff.1 hN9).1).trans hN9, hO9.trans (Only.of_below (B := B) hq) (fun r hr => .inl hr)⟩
  case round =>
    obtain ⟨k, hk, rfl, l', hBw, hbox, hO⟩ := hrel
    by_cases hlt : k < nd.args.length
    · have hids : l'.map (·.1.id) = (es ++ [ent]).map (·.id) := by
        have := bumps_ids (nd.args.take k) (es ++ [ent])
        rw [← hBw.ents, List.map_map] at this
        exact this
      obtain ⟨x, hx, hxi, hone, hrec⟩ := recMap_find l' nd.args[k] (by rw [hids, List.map_append]; exact List.mem_append_left _ (hin _ (List.getElem_mem hlt))) (by
        rw [hids, List.map_append, List.nodup_append]
        refine ⟨hnod, by simp, ?_⟩
        intro a ha b hb
        obtain ⟨e, he, rfl⟩ := List.mem_map.1 ha
        have : b = ent.id := by simpa using hb
        rw [this, hei]
        exact hid e he)
      have hfitk := hfine.each _ (List.getElem_mem hlt)
      have hlk := ((hBw.recs.look keyed3 Try.underlying73 (zero85 _) (key3 hfitk)).1 _ hrec).2
      obtain ⟨_, _, d2, _⟩ := hBw.cells
      obtain ⟨_, _, _, _, hargk⟩ := nd_cell hbox
      have harg := hargk k hlt hfine.len
      have hrc := hBw.each x hx
      have hu : wr.cell? ⟨x.2, 20, none⟩ = some (.int .i64 x.1.uses) := by
        rw [cell_of_row _ _ _ _ 84 (0, 0) hrc, List.getElem?_toArray]
        exact x.1.cells_uses
      have hfz : wr.frozen? ⟨x.2, 20, none⟩ = false := by simp [World.frozen?, hrc]
      have hbump := bank_bump hBw _ x hx hxi hone
      have hts : nd.args.take (k + 1) = nd.args.take k ++ [nd.args[k]] := List.take_succ_eq_append_getElem hlt
      have hgs := World.grownBy_setCell_any wr x.2 20 (.int .i64 (wrap64 (x.1.uses + 1)))
      have hxB : x.2 ∈ B ++ [W7.heap.size] := by
        rw [hBw.mine]
        simp only [List.mem_cons, List.mem_append, List.mem_map]
        exact .inr (.inr (.inr (.inr ⟨x, hx, rfl⟩)))
      have hxN : x.2 ≠ W.heap.size := by
        intro e
        rw [e, hbox] at hrc
        simp at hrc
      have HE : Hid (∃ l', BankAt n0 Ba (B ++ [W7.heap.size]) limit (bumps (nd.args.take (k + 1)) (es ++ [ent])) free' (wr.setCell ⟨x.2, 20, none⟩ (.int .i64 (wrap64 (x.1.uses + 1)))) bn br fv' l' ∧ (wr.setCell ⟨x.2, 20, none⟩ (.int .i64 (wrap64 (x.1.uses + 1)))).heap[W.heap.size]? = some (.cells nd.cells.toArray 82 (0, 0)) ∧ Only B W (wr.setCell ⟨x.2, 20, none⟩ (.int .i64 (wrap64 (x.1.uses + 1))))) := by
        refine ⟨_, by rw [hts, bumps_snoc]; exact hbump, (hgs.block _ (Array.getElem?_eq_some_iff.1 hbox).1 (fun e => hxN (Option.some.inj e).symm)).trans hbox, hO.trans (Only.of_grown (B := [x.2]) hgs (fun r e => by cases e; simp)) (fun r hr => ?_)⟩
        cases List.mem_singleton.1 hr
        rcases List.mem_append.1 hxB with h | h
        · exact .inl h
        · exact .inr (by rw [List.mem_singleton.1 h]; omega)
      have hki : ((k : Int) < (nd.args.length : Int)) := by omega
      have h16 := hfine.len
      clear hbump hgs hts hone hids hargk hBw hO hbox hrec
      go_wp2
      go_roundw
      case rel => exact ⟨k + 1, by omega, by go_num, HE⟩
      case measure => simp [intOf]; omega
    · have hall : nd.args.take k = nd.args := List.take_of_length_le (by omega)
      have hki : ¬ ((k : Int) < (nd.args.length : Int)) := by omega
      rw [hall, show ent = _ from HEnt] at hBw
      have HP : Hid (∃ B' free', BankSt n0 Ba B' limit (bumps nd.args (es ++ [⟨id, nd, 0, 0⟩])) free' wr ∧ Q free' ∧ (∀ r ∈ B', r ∈ B ∨ W.heap.size ≤ r) ∧ Only B W wr) := by
        refine ⟨_, _, ⟨_, _, _, _, hBw⟩, hQ, fun r hr => ?_, hO⟩
        rcases List.mem_append.1 hr with h | h
        · exact .inl h
        · exact .inr (by rw [List.mem_singleton.1 h]; omega)
      clear hBw hO hbox
      go_wp2
      go_ret
      exact ⟨rfl, HP⟩

end Go.Proofs.Ytbbfpllffcfmhaa

/-
  enter as what numbers nodes, whatever numbers are free.
-/
namespace Go.Proofs.Ytbbfpllffcfmhaa
open Go.RowKit Go.Maps

/-- The least number that no entry has. -/
def Least (es : List Ent) (i : Int) : Prop := 1 ≤ i ∧ i ∉ es.map (·.id) ∧ ∀ j, 1 ≤ j → j < i → j ∈ es.map (·.id)

theorem Least.one {es : List Ent} {i j : Int} (h : Least es i) (k : Least es j) : i = j := by
  rcases Int.lt_trichotomy i j with e | e | e
  · exact absurd (k.2.2 i h.1 e) h.2.1
  · exact e
  · exact absurd (h.2.2 j k.1 e) k.2.1

/-- The free numbers: with those that the entries have they are the first ones. -/
structure Fr (es : List Ent) (free : List Int) : Prop where
  hp : Hp free
  all : ∀ i, (i ∈ free ∨ i ∈ es.map (·.id)) ↔ 1 ≤ i ∧ i ≤ free.length + es.length
  nod : (free ++ es.map (·.id)).Nodup
  top : free.length + es.length ≤ 1000000

theorem Fr.nil : Fr [] [] := ⟨fun i _ hi => by simp at hi, fun i => by simp; omega, by simp, by simp⟩

theorem Fr.apart {es : List Ent} {free : List Int} (h : Fr es free) {i : Int} (h1 : i ∈ free) : i ∉ es.map (·.id) := fun h2 => (List.nodup_append.1 h.nod).2.2 i h1 i h2 rfl

/-- No number is free: the next one. -/
theorem Fr.least0 {es : List Ent} (h : Fr es []) : Least es (es.length + 1) := by
  have ha : ∀ i : Int, i ∈ es.map (·.id) ↔ 1 ≤ i ∧ i ≤ es.length := fun i => by simpa using h.all i
  exact ⟨by omega, fun hm => by have := (ha _).1 hm; omega, fun j h1 h2 => (ha j).2 ⟨h1, by omega⟩⟩

theorem Fr.least1 {es : List Ent} {free : List Int} (h : Fr es free) {x : Int} (hx : x ∈ free) (hm : ∀ y ∈ free, x ≤ y) : Least es x := by
  have h1 := (h.all x).1 (.inl hx)
  refine ⟨h1.1, h.apart hx, fun j j1 j2 => ?_⟩
  rcases (h.all j).2 ⟨j1, by omega⟩ with h2 | h2
  · have := hm j h2
    omega
  · exact h2

theorem Fr.new0 {es : List Ent} (h : Fr es []) (nd : Nd) (hl : es.length < 1000000) : Fr (bumps nd.args (es ++ [⟨es.length + 1, nd, 0, 0⟩])) [] := by
  have ha : ∀ i : Int, i ∈ es.map (·.id) ↔ 1 ≤ i ∧ i ≤ es.length := fun i => by simpa using h.all i
  refine ⟨h.hp, fun i => ?_, ?_, ?_⟩
  · rw [bumps_ids, bumps_len, List.map_append, List.mem_append, ha, List.length_append]
    simp
    omega
  · rw [bumps_ids, List.map_append, List.nil_append, List.nodup_append]
    refine ⟨by simpa using h.nod, by simp, fun a h1 b h2 e => ?_⟩
    have : b = es.length + 1 := by simpa using h2
    have := (ha a).1 h1
    omega
  · rw [bumps_len, List.length_append]
    simp
    omega

theorem Fr.new1 {es : List Ent} {free free' : List Int} {x : Int} (h : Fr es free) (nd : Nd) (hp : Hp free') (hP : (x :: free').Perm free) : Fr (bumps nd.args (es ++ [⟨x, nd, 0, 0⟩])) free' := by
  have hlen := hP.length_eq
  rw [List.length_cons] at hlen
  have hmem : ∀ i, i ∈ free ↔ i = x ∨ i ∈ free' := fun i => by rw [← hP.mem_iff, List.mem_cons]
  refine ⟨hp, fun i => ?_, ?_, ?_⟩
  · rw [bumps_ids, bumps_len, List.map_append, List.mem_append, List.length_append]
    have := h.all i
    rw [hmem] at this
    simp only [List.map_cons, List.map_nil, List.mem_singleton, List.length_singleton]
    rw [show (i ∈ free' ∨ i ∈ es.map (·.id) ∨ i = x) ↔ ((i = x ∨ i ∈ free') ∨ i ∈ es.map (·.id)) from ⟨fun h => by rcases h with h | h | h <;> simp [h], fun h => by rcases h with (h | h) | h <;> simp [h]⟩, this]
    omega
  · rw [bumps_ids, List.map_append]
    have h1 : (free ++ es.map (·.id)).Perm (free' ++ (es.map (·.id) ++ [x])) := by
      refine (hP.symm.append_right _).trans ?_
      rw [List.cons_append, ← List.append_assoc]
      exact (List.perm_append_singleton _ _).symm
    exact h1.nodup_iff.1 h.nod
  · rw [bumps_len, List.length_append]
    have := h.top
    simp
    omega

/-- Entries whose numbers differ. -/
structure GoodF (es : List Ent) : Prop where
  nod : (es.map (·.id)).Nodup
  fit : ∀ i ∈ es.map (·.id), Fit64 i

theorem GoodF.snoc {es : List Ent} (h : GoodF es) (nd : Nd) {i : Int} (hi : Least es i ∧ Fit64 i) : GoodF (bumps nd.args (es ++ [⟨i, nd, 0, 0⟩])) := by
  refine ⟨?_, fun j hj => ?_⟩
  · rw [bumps_ids, List.map_append, List.nodup_append]
    refine ⟨h.nod, by simp, fun a h1 b h2 e => ?_⟩
    have : b = i := by simpa using h2
    subst this
    exact hi.1.2.1 (e ▸ h1)
  · rw [bumps_ids, List.map_append, List.mem_append] at hj
    rcases hj with hj | hj
    · exact h.fit j hj
    · have : j = i := by simpa using hj
      rw [this]
      exact hi.2

open Classical in
/-- What enter answers. -/
noncomputable def stepG (s : {es : List Ent // GoodF es}) (nd : Nd) : {es : List Ent // GoodF es} × Int :=
  match entOf s.1 nd with
  | some e => (s, e.id)
  | none => if h : ∃ i, Least s.1 i ∧ Fit64 i then (⟨bumps nd.args (s.1 ++ [⟨Classical.choose h, nd, 0, 0⟩]), s.2.snoc nd (Classical.choose_spec h)⟩, Classical.choose h) else (s, (s.1.map (·.id)).headD 1)

theorem stepG_old {s : {es : List Ent // GoodF es}} {nd : Nd} {e : Ent} (h : entOf s.1 nd = some e) : stepG s nd = (s, e.id) := by
  unfold stepG
  rw [h]

theorem stepG_new {s : {es : List Ent // GoodF es}} {nd : Nd} (h : entOf s.1 nd = none) {i : Int} (hi : Least s.1 i ∧ Fit64 i) : stepG s nd = (⟨bumps nd.args (s.1 ++ [⟨i, nd, 0, 0⟩]), s.2.snoc nd hi⟩, i) := by
  have hx : ∃ i, Least s.1 i ∧ Fit64 i := ⟨i, hi⟩
  have e : Classical.choose hx = i := (Classical.choose_spec hx).1.one hi.1
  unfold stepG
  rw [h]
  simp only [dif_pos hx]
  congr 1
  apply Subtype.ext
  simp only [e]

theorem stepG_full {s : {es : List Ent // GoodF es}} {nd : Nd} (h : entOf s.1 nd = none) (hx : ¬ ∃ i, Least s.1 i ∧ Fit64 i) : stepG s nd = (s, (s.1.map (·.id)).headD 1) := by
  unfold stepG
  rw [h]
  exact dif_neg hx

/-- enter as what numbers nodes. -/
noncomputable def enterG (n0 Ba : Nat) (limit : Int) : Numb where
  σ := {es : List Ent // GoodF es}
  St := fun B s W => ∃ free, BankSt n0 Ba B limit s.1 free W ∧ Fr s.1 free
  step := stepG
  Has := fun s id => id ∈ s.1.map (·.id)
  cnt := fun s => s.1.length + 1072741825
  n0 := n0
  keep := fun B s W W' ⟨f, h, k⟩ hB _ => ⟨f, h.keep hB, k⟩
  low := fun B s W ⟨f, h, _⟩ => h.there
  has := by
    intro s nd id h
    cases he : entOf s.1 nd with
    | some e => rw [stepG_old he]; exact h
    | none =>
      by_cases hl : ∃ i, Least s.1 i ∧ Fit64 i
      · obtain ⟨i, hi⟩ := hl
        rw [stepG_new he hi]
        show id ∈ (bumps nd.args (s.1 ++ [⟨i, nd, 0, 0⟩])).map (·.id)
        rw [bumps_ids, List.map_append]
        exact List.mem_append_left _ h
      · rw [stepG_full he hl]; exact h
  hasNew := by
    intro s nd
    cases he : entOf s.1 nd with
    | some e => rw [stepG_old he]; exact List.mem_map_of_mem (List.mem_of_find?_eq_some he)
    | none =>
      by_cases hl : ∃ i, Least s.1 i ∧ Fit64 i
      · obtain ⟨i, hi⟩ := hl
        rw [stepG_new he hi]
        show _ ∈ (bumps nd.args (s.1 ++ [⟨i, nd, 0, 0⟩])).map (·.id)
        rw [bumps_ids, List.map_append]
        exact List.mem_append_right _ (by simp)
      · rw [stepG_full he hl]
        obtain ⟨es, hg⟩ := s
        cases es with
        | nil => exact absurd ⟨1, ⟨by omega, by simp, fun j h1 h2 => by omega⟩, ⟨by omega, by omega⟩⟩ hl
        | cons a r => simp
  fit := fun s id h => s.2.fit id h
  cntUp := by
    intro s nd
    cases he : entOf s.1 nd with
    | some e => rw [stepG_old he]; exact Nat.le_succ _
    | none =>
      by_cases hl : ∃ i, Least s.1 i ∧ Fit64 i
      · obtain ⟨i, hi⟩ := hl
        rw [stepG_new he hi]
        show (bumps nd.args (s.1 ++ [⟨i, nd, 0, 0⟩])).length + 1072741825 ≤ _
        rw [bumps_len, List.length_append]
        simp only [List.length_singleton]
        omega
      · rw [stepG_full he hl]; exact Nat.le_succ _

end Go.Proofs.Ytbbfpllffcfmhaa
