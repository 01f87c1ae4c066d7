/-
  numberOf, over missing's closure and over enter.
-/
import Derived.Test.YtbbfpllffcfmhaaP
namespace Go.Proofs.Ytbbfpllffcfmhaa
open Go.RowKit Go.Maps

theorem World.grownBy_setCell_any (W : World) (b i : Nat) (v : Value) : W.grownBy (W.setCell ⟨b, i, none⟩ v) (some b) := by
  exact ⟨rfl, rfl, rfl, by simp, fun k _ hk => Below.heap_setCell _ _ _ k (fun e => hk (by rw [e]))⟩

set_option maxRecDepth 100000 in
set_option maxHeartbeats 2000000 in
theorem numEnter_one (M : Numb) (w0 : World) (hn0 : w0.heap.size ≤ M.n0) (Ba : Nat) (hask : M.Asks 50 (fun v => #[.pointer (some ⟨Ba, 0, none⟩), v])) (t : T) (ih : ∀ a ∈ t.args, M.NumAt w0 (.func (.func 50) #[.pointer (some ⟨Ba, 0, none⟩)] #[]) a) : M.NumAt w0 (.func (.func 50) #[.pointer (some ⟨Ba, 0, none⟩)] #[]) t := by
  intro B s sl W hS ha hw hsh hcnt
  obtain ⟨hl16, hf64, hv64, hsub⟩ := shape_args hsh
  obtain ⟨a, c, rfl, hc, hm⟩ := ha.slice
  have hR : Hid (M.num t s = M.step (Numb.num.nums M t.args s).1 ⟨t.v, t.fn, (Numb.num.nums M t.args s).2⟩) := M.num_eq t s
  have hlow := M.low _ _ _ hS
  clear hsh
  go_enter Try.func49, Try.ntmps49
  go_wp2_with (first
    | (refine wpList_build_node t.v t.fn t.args.length rfl _ _ _ rfl rfl rfl rfl ?_)
    | (refine wpList_store_node (W.alloc (tbox t (.slice a t.args.length c))) (W.heap.size + 1) (by simp) _ (ndCells t.v t.fn t.args.length []).toArray rfl (.tmp 5) (.tmp 15) rfl rfl rfl rfl (by simp [ndCells_len]) (nd_one _ _ _ _) ?_))
  go_loopw [19] (fun i wr => ∃ k : Nat, k ≤ t.args.length ∧ i = .int .i64 k ∧ Hid (∃ B', M.St B' (Numb.num.nums M (t.args.take k) s).1 wr ∧ (∀ r ∈ B', r ∈ B ∨ W.heap.size + 2 ≤ r) ∧ wr.heap[W.heap.size + 1]? = some (.cells (ndCells t.v t.fn t.args.length (Numb.num.nums M (t.args.take k) s).2).toArray 82 (0, 0)) ∧ Only B W wr)) (fun i _ => t.args.length - (intOf i).toNat)
  case atStart =>
    have hb2 := below_box2 W (tbox t (.slice a t.args.length c)) (.cells (ndCells t.v t.fn t.args.length []).toArray 82)
    refine ⟨0, Nat.zero_le _, rfl, B, M.keep _ _ _ _ hS (fun r hr => hb2.block r (hlow r hr).2) hb2.size, fun r hr => .inl hr, ?_, Only.of_below hb2⟩
    have := (MapKept.heap_alloc (W.alloc (tbox t (.slice a t.args.length c))) (.cells (ndCells t.v t.fn t.args.length []).toArray 82)).1
    rw [World.size_alloc] at this
    exact this
  case round =>
    obtain ⟨k, hk, rfl, B', hS', hB', hbox, hO⟩ := hrel
    have hwr : Below w0.heap.size w0 wr := hw.trans (hO.below hw.size (fun r hr => Nat.le_trans hn0 (hlow r hr).1))
    have hlow' := M.low _ _ _ hS'
    have hblt : W.heap.size + 1 < wr.heap.size := (Array.getElem?_eq_some_iff.1 hbox).1
    have hnB : ∀ r ∈ B', r ≠ W.heap.size + 1 := fun r hr e => by
      rcases hB' r hr with h | h
      · have := (hlow r h).2; omega
      · omega
    by_cases hlt : k < t.args.length
    · have haw := ArgsAt.keep hwr (Nat.le_refl _) ha
      obtain ⟨ba, oa, sk, rfl, hba, a0, a1, a2, _⟩ := haw.nth hlt
      obtain ⟨b1, o1, s1, e1, _, _, _, c2', hs⟩ := ha.nth hlt
      have hss : s1 = sk := by
        cases e1
        have := (hwr.cell (p := ⟨ba, oa + k * 3 + 2, none⟩) (World.block_lt_of_cell? w0 _ c2')).trans c2'
        rw [a2] at this
        exact (Option.some.inj this).symm
      subst hss
      clear e1 c2' haw
      obtain ⟨aa, cs, rfl, _, _⟩ := hs.slice
      obtain ⟨_, _, hcn⟩ := M.nums_has (t.args.take k) s
      have hlen := M.nums_len (t.args.take k) s
      rw [List.length_take, Nat.min_eq_left (by omega)] at hlen
      have hts : t.args.take (k + 1) = t.args.take k ++ [t.args[k]] := List.take_succ_eq_append_getElem hlt
      have hsum : ((t.args.take k).map T.size).sum + t.args[k].size ≤ (t.args.map T.size).sum := by
        have e := congrArg (fun l : List T => (l.map T.size).sum) (List.take_append_drop (k + 1) t.args)
        simp only [List.map_append, List.sum_append, hts, List.map_cons, List.map_nil, List.sum_cons, List.sum_nil] at e
        have : ∀ l : List T, 0 ≤ (l.map T.size).sum := by
          intro l
          induction l with
          | nil => simp
          | cons x r ihx => have := size_pos x; simp only [List.map_cons, List.sum_cons]; omega
        have := this (t.args.drop (k + 1))
        omega
      have hsz := t.size_eq
      have bx := below_box wr (tbox t.args[k] (.slice aa t.args[k].args.length cs))
      have hS1 := M.keep _ _ _ _ hS' (fun r hr => bx.block r (hlow' r hr).2) bx.size
      have hcall := ih t.args[k] (List.getElem_mem hlt) B' _ _ _ hS1 hs (hwr.trans (bx.mono hwr.size)) (hsub _ (List.getElem_mem hlt)) (by omega)
      have HN : Hid (Numb.num.nums M (t.args.take (k + 1)) s = ((M.num t.args[k] (Numb.num.nums M (t.args.take k) s).1).1, (Numb.num.nums M (t.args.take k) s).2 ++ [(M.num t.args[k] (Numb.num.nums M (t.args.take k) s).1).2])) := by
        show Numb.num.nums M (t.args.take (k + 1)) s = _
        rw [hts, M.nums_snoc]
      clear hcn hsum hsz hts ih ha hsub hcnt
      obtain ⟨ids, hids⟩ : ∃ ids, (Numb.num.nums M (t.args.take k) s).2 = ids := ⟨_, rfl⟩
      obtain ⟨sk', hsk⟩ : ∃ sk', (Numb.num.nums M (t.args.take k) s).1 = sk' := ⟨_, rfl⟩
      rw [hids] at hlen hbox HN
      rw [hsk] at hS' hS1 hcall HN
      clear hids hsk
      obtain ⟨x, hx⟩ : ∃ x, M.num t.args[k] sk' = x := ⟨_, rfl⟩
      rw [hx] at hcall HN
      clear hx
      have hcall' := hcall.mono (R' := fun e W' => e = .returned (.int .i64 x.2) ∧ W'.cell? ⟨W.heap.size + 1, 3 + k, none⟩ = some (.int .i64 (ids.getD k 0)) ∧ W'.frozen? ⟨W.heap.size + 1, 3 + k, none⟩ = false ∧ Hid (∃ B2, M.St B2 x.1 (W'.setCell ⟨W.heap.size + 1, 3 + k, none⟩ (.int .i64 x.2)) ∧ (∀ r ∈ B2, r ∈ B ∨ W.heap.size + 2 ≤ r) ∧ (W'.setCell ⟨W.heap.size + 1, 3 + k, none⟩ (.int .i64 x.2)).heap[W.heap.size + 1]? = some (.cells (ndCells t.v t.fn t.args.length (ids ++ [x.2])).toArray 82 (0, 0)) ∧ Only B W (W'.setCell ⟨W.heap.size + 1, 3 + k, none⟩ (.int .i64 x.2)))) (by
        rintro e W' ⟨he, B2, hS2, hB2, hO2⟩
        have hbx2 : W'.heap[W.heap.size + 1]? = some (.cells (ndCells t.v t.fn t.args.length ids).toArray 82 (0, 0)) := by
          rw [hO2.block _ (by simp; omega) (fun h => hnB _ h rfl), bx.block _ hblt]
          exact hbox
        have hset := set_node (i := 3 + k) (v := .int .i64 x.2) hbx2
        rw [← hlen, ndCells_snoc _ _ _ _ _ (by omega), hlen] at hset
        have hne2 : ∀ r ∈ B2, r ≠ W.heap.size + 1 := fun r hr e => by
          rcases hB2 r hr with h | h
          · exact hnB r h e
          · simp at h; omega
        have hblk : ∀ r, r ≠ W.heap.size + 1 → (W'.setCell ⟨W.heap.size + 1, 3 + k, none⟩ (.int .i64 x.2)).heap[r]? = W'.heap[r]? := fun r hr => by
          have := (World.grownBy_setCell_any W' (W.heap.size + 1) (3 + k) (.int .i64 x.2)).block
          by_cases hrl : r < W'.heap.size
          · exact this r hrl (fun e => hr (Option.some.inj e))
          · rw [Array.getElem?_eq_none (by simp; omega), Array.getElem?_eq_none (by omega)]
        refine ⟨he, ?_, ?_, B2, M.keep _ _ _ _ hS2 (fun r hr => hblk r (hne2 r hr)) (by simp), fun r hr => ?_, hset, ?_⟩
        · rw [cell_of_row _ _ _ _ 82 (0, 0) hbx2]
          have hk16 : k < 16 := by omega
          have := pad_at ids k hk16
          simp only [ndCells, List.getElem?_toArray]
          rw [List.getElem?_append_right (by simp), show 3 + k - [Value.int .i64 t.v, .string t.fn, .int .i64 (t.args.length : Int)].length = k by simp]
          exact this
        · simp [World.frozen?, hbx2]
        · rcases hB2 r hr with h | h
          · exact hB' r h
          · exact .inr (by simp at h; omega)
        · refine hO.trans (B' := (W.heap.size + 1) :: B') ⟨?_, ?_, ?_, ?_, ?_⟩ (fun r hr => ?_)
          · exact hO2.os.trans bx.os
          · exact hO2.tape.trans bx.tape
          · exact hO2.output.trans bx.output
          · have := hO2.size
            simp at this ⊢
            omega
          · intro r hr hn
            simp only [List.mem_cons, not_or] at hn
            rw [hblk r hn.1, hO2.block r (by simp; omega) hn.2, bx.block r hr]
          · rcases List.mem_cons.1 hr with rfl | hr
            · exact .inr (by omega)
            · rcases hB' r hr with h | h
              · exact .inl h
              · exact .inr (by omega))
      clear hcall hS1 hS' hs hlow hlow' hB' hbox hO hnB bx hwr hw hS
      go_wp2_with (go_at_call 49; refine hcall'.mono ?_; rintro e W' ⟨rfl, cc, ff, HD⟩)
      go_roundw
      case rel =>
        obtain ⟨B2, d1, d2, d3, d4⟩ := HD
        refine ⟨k + 1, by omega, by go_num, ?_⟩
        rw [show Numb.num.nums M (t.args.take (k + 1)) s = _ from HN]
        exact ⟨B2, d1, d2, d3, d4⟩
      case measure => simp [intOf]; omega
    · have hall : t.args.take k = t.args := List.take_of_length_le (by omega)
      rw [hall] at hS' hbox
      obtain ⟨_, hhas, hcn⟩ := M.nums_has t.args s
      have hlen := M.nums_len t.args s
      have hsz := t.size_eq
      have hnd : (⟨t.v, t.fn, (Numb.num.nums M t.args s).2⟩ : Nd).cells = ndCells t.v t.fn t.args.length (Numb.num.nums M t.args s).2 := by
        unfold Nd.cells
        simp only [hlen]
      have hcall := hask B' _ ⟨t.v, t.fn, (Numb.num.nums M t.args s).2⟩ wr hS' hhas ⟨hv64, hf64, by simp only [hlen]; exact hl16, fun x hx => M.fit _ _ (hhas x hx)⟩ (by omega)
      rw [← (show M.num t s = _ from hR)] at hcall
      simp only [Nd.val, hnd] at hcall
      have hcall' := hcall.mono (R' := fun e W' => e = .returned (.int .i64 (M.num t s).2) ∧ M.Did B (M.num t s).1 W W') (by
        rintro e W' ⟨he, B2, g1, g2, g3⟩
        refine ⟨he, B2, g1, fun r hr => ?_, hO.trans g3 (fun r hr => ?_)⟩
        · rcases g2 r hr with h | h
          · rcases hB' r h with h | h
            · exact .inl h
            · exact .inr (by omega)
          · exact .inr (by have := hO.size; omega)
        · rcases hB' r hr with h | h
          · exact .inl h
          · exact .inr (by omega))
      have hcl := ndCells_len t.v t.fn t.args.length (Numb.num.nums M t.args s).2
      generalize ndCells t.v t.fn t.args.length (Numb.num.nums M t.args s).2 = cells at *
      clear hcall hS' hB' hO hnB hwr hw hS ih hask hall hlow hlow' hR hnd hhas hcn hsz hsub ha
      go_wp2_with (first
        | (refine wpList_load_node rfl _ rfl (W.heap.size + 1) rfl cells hbox hcl ?_)
        | (go_at_call 50; refine hcall'.mono ?_; rintro e W' ⟨rfl, HD⟩))
      go_ret
      exact ⟨rfl, HD⟩

theorem numEnter_any (M : Numb) (w0 : World) (hn0 : w0.heap.size ≤ M.n0) (Ba : Nat) (hask : M.Asks 50 (fun v => #[.pointer (some ⟨Ba, 0, none⟩), v])) (t : T) : M.NumAt w0 (.func (.func 50) #[.pointer (some ⟨Ba, 0, none⟩)] #[]) t := by
  induction t using T.ind with
  | _ t ih => exact numEnter_one M w0 hn0 Ba hask t ih

set_option maxRecDepth 100000 in
set_option maxHeartbeats 2000000 in
theorem numMiss_one (M : Numb) (w0 : World) (hn0 : w0.heap.size ≤ M.n0) (Bp Bf : Nat) (hask : M.Asks 65 (fun v => #[v, .pointer (some ⟨Bp, 0, none⟩), .pointer (some ⟨Bf, 0, none⟩)])) (t : T) (ih : ∀ a ∈ t.args, M.NumAt w0 (.func (.func 65) #[] #[.pointer (some ⟨Bp, 0, none⟩), .pointer (some ⟨Bf, 0, none⟩)]) a) : M.NumAt w0 (.func (.func 65) #[] #[.pointer (some ⟨Bp, 0, none⟩), .pointer (some ⟨Bf, 0, none⟩)]) t := by
  intro B s sl W hS ha hw hsh hcnt
  obtain ⟨hl16, hf64, hv64, hsub⟩ := shape_args hsh
  obtain ⟨a, c, rfl, hc, hm⟩ := ha.slice
  have hR : Hid (M.num t s = M.step (Numb.num.nums M t.args s).1 ⟨t.v, t.fn, (Numb.num.nums M t.args s).2⟩) := M.num_eq t s
  have hlow := M.low _ _ _ hS
  clear hsh
  go_enter Try.func49, Try.ntmps49
  go_wp2_with (first
    | (refine wpList_build_node t.v t.fn t.args.length rfl _ _ _ rfl rfl rfl rfl ?_)
    | (refine wpList_store_node (W.alloc (tbox t (.slice a t.args.length c))) (W.heap.size + 1) (by simp) _ (ndCells t.v t.fn t.args.length []).toArray rfl (.tmp 5) (.tmp 15) rfl rfl rfl rfl (by simp [ndCells_len]) (nd_one _ _ _ _) ?_))
  go_loopw [19] (fun i wr => ∃ k : Nat, k ≤ t.args.length ∧ i = .int .i64 k ∧ Hid (∃ B', M.St B' (Numb.num.nums M (t.args.take k) s).1 wr ∧ (∀ r ∈ B', r ∈ B ∨ W.heap.size + 2 ≤ r) ∧ wr.heap[W.heap.size + 1]? = some (.cells (ndCells t.v t.fn t.args.length (Numb.num.nums M (t.args.take k) s).2).toArray 82 (0, 0)) ∧ Only B W wr)) (fun i _ => t.args.length - (intOf i).toNat)
  case atStart =>
    have hb2 := below_box2 W (tbox t (.slice a t.args.length c)) (.cells (ndCells t.v t.fn t.args.length []).toArray 82)
    refine ⟨0, Nat.zero_le _, rfl, B, M.keep _ _ _ _ hS (fun r hr => hb2.block r (hlow r hr).2) hb2.size, fun r hr => .inl hr, ?_, Only.of_below hb2⟩
    have := (MapKept.heap_alloc (W.alloc (tbox t (.slice a t.args.length c))) (.cells (ndCells t.v t.fn t.args.length []).toArray 82)).1
    rw [World.size_alloc] at this
    exact this
  case round =>
    obtain ⟨k, hk, rfl, B', hS', hB', hbox, hO⟩ := hrel
    have hwr : Below w0.heap.size w0 wr := hw.trans (hO.below hw.size (fun r hr => Nat.le_trans hn0 (hlow r hr).1))
    have hlow' := M.low _ _ _ hS'
    have hblt : W.heap.size + 1 < wr.heap.size := (Array.getElem?_eq_some_iff.1 hbox).1
    have hnB : ∀ r ∈ B', r ≠ W.heap.size + 1 := fun r hr e => by
      rcases hB' r hr with h | h
      · have := (hlow r h).2; omega
      · omega
    by_cases hlt : k < t.args.length
    · have haw := ArgsAt.keep hwr (Nat.le_refl _) ha
      obtain ⟨ba, oa, sk, rfl, hba, a0, a1, a2, _⟩ := haw.nth hlt
      obtain ⟨b1, o1, s1, e1, _, _, _, c2', hs⟩ := ha.nth hlt
      have hss : s1 = sk := by
        cases e1
        have := (hwr.cell (p := ⟨ba, oa + k * 3 + 2, none⟩) (World.block_lt_of_cell? w0 _ c2')).trans c2'
        rw [a2] at this
        exact (Option.some.inj this).symm
      subst hss
      clear e1 c2' haw
      obtain ⟨aa, cs, rfl, _, _⟩ := hs.slice
      obtain ⟨_, _, hcn⟩ := M.nums_has (t.args.take k) s
      have hlen := M.nums_len (t.args.take k) s
      rw [List.length_take, Nat.min_eq_left (by omega)] at hlen
      have hts : t.args.take (k + 1) = t.args.take k ++ [t.args[k]] := List.take_succ_eq_append_getElem hlt
      have hsum : ((t.args.take k).map T.size).sum + t.args[k].size ≤ (t.args.map T.size).sum := by
        have e := congrArg (fun l : List T => (l.map T.size).sum) (List.take_append_drop (k + 1) t.args)
        simp only [List.map_append, List.sum_append, hts, List.map_cons, List.map_nil, List.sum_cons, List.sum_nil] at e
        have : ∀ l : List T, 0 ≤ (l.map T.size).sum := by
          intro l
          induction l with
          | nil => simp
          | cons x r ihx => have := size_pos x; simp only [List.map_cons, List.sum_cons]; omega
        have := this (t.args.drop (k + 1))
        omega
      have hsz := t.size_eq
      have bx := below_box wr (tbox t.args[k] (.slice aa t.args[k].args.length cs))
      have hS1 := M.keep _ _ _ _ hS' (fun r hr => bx.block r (hlow' r hr).2) bx.size
      have hcall := ih t.args[k] (List.getElem_mem hlt) B' _ _ _ hS1 hs (hwr.trans (bx.mono hwr.size)) (hsub _ (List.getElem_mem hlt)) (by omega)
      have HN : Hid (Numb.num.nums M (t.args.take (k + 1)) s = ((M.num t.args[k] (Numb.num.nums M (t.args.take k) s).1).1, (Numb.num.nums M (t.args.take k) s).2 ++ [(M.num t.args[k] (Numb.num.nums M (t.args.take k) s).1).2])) := by
        show Numb.num.nums M (t.args.take (k + 1)) s = _
        rw [hts, M.nums_snoc]
      clear hcn hsum hsz hts ih ha hsub hcnt
      obtain ⟨ids, hids⟩ : ∃ ids, (Numb.num.nums M (t.args.take k) s).2 = ids := ⟨_, rfl⟩
      obtain ⟨sk', hsk⟩ : ∃ sk', (Numb.num.nums M (t.args.take k) s).1 = sk' := ⟨_, rfl⟩
      rw [hids] at hlen hbox HN
      rw [hsk] at hS' hS1 hcall HN
      clear hids hsk
      obtain ⟨x, hx⟩ : ∃ x, M.num t.args[k] sk' = x := ⟨_, rfl⟩
      rw [hx] at hcall HN
      clear hx
      have hcall' := hcall.mono (R' := fun e W' => e = .returned (.int .i64 x.2) ∧ W'.cell? ⟨W.heap.size + 1, 3 + k, none⟩ = some (.int .i64 (ids.getD k 0)) ∧ W'.frozen? ⟨W.heap.size + 1, 3 + k, none⟩ = false ∧ Hid (∃ B2, M.St B2 x.1 (W'.setCell ⟨W.heap.size + 1, 3 + k, none⟩ (.int .i64 x.2)) ∧ (∀ r ∈ B2, r ∈ B ∨ W.heap.size + 2 ≤ r) ∧ (W'.setCell ⟨W.heap.size + 1, 3 + k, none⟩ (.int .i64 x.2)).heap[W.heap.size + 1]? = some (.cells (ndCells t.v t.fn t.args.length (ids ++ [x.2])).toArray 82 (0, 0)) ∧ Only B W (W'.setCell ⟨W.heap.size + 1, 3 + k, none⟩ (.int .i64 x.2)))) (by
        rintro e W' ⟨he, B2, hS2, hB2, hO2⟩
        have hbx2 : W'.heap[W.heap.size + 1]? = some (.cells (ndCells t.v t.fn t.args.length ids).toArray 82 (0, 0)) := by
          rw [hO2.block _ (by simp; omega) (fun h => hnB _ h rfl), bx.block _ hblt]
          exact hbox
        have hset := set_node (i := 3 + k) (v := .int .i64 x.2) hbx2
        rw [← hlen, ndCells_snoc _ _ _ _ _ (by omega), hlen] at hset
        have hne2 : ∀ r ∈ B2, r ≠ W.heap.size + 1 := fun r hr e => by
          rcases hB2 r hr with h | h
          · exact hnB r h e
          · simp at h; omega
        have hblk : ∀ r, r ≠ W.heap.size + 1 → (W'.setCell ⟨W.heap.size + 1, 3 + k, none⟩ (.int .i64 x.2)).heap[r]? = W'.heap[r]? := fun r hr => by
          have := (World.grownBy_setCell_any W' (W.heap.size + 1) (3 + k) (.int .i64 x.2)).block
          by_cases hrl : r < W'.heap.size
          · exact this r hrl (fun e => hr (Option.some.inj e))
          · rw [Array.getElem?_eq_none (by simp; omega), Array.getElem?_eq_none (by omega)]
        refine ⟨he, ?_, ?_, B2, M.keep _ _ _ _ hS2 (fun r hr => hblk r (hne2 r hr)) (by simp), fun r hr => ?_, hset, ?_⟩
        · rw [cell_of_row _ _ _ _ 82 (0, 0) hbx2]
          have hk16 : k < 16 := by omega
          have := pad_at ids k hk16
          simp only [ndCells, List.getElem?_toArray]
          rw [List.getElem?_append_right (by simp), show 3 + k - [Value.int .i64 t.v, .string t.fn, .int .i64 (t.args.length : Int)].length = k by simp]
          exact this
        · simp [World.frozen?, hbx2]
        · rcases hB2 r hr with h | h
          · exact hB' r h
          · exact .inr (by simp at h; omega)
        · refine hO.trans (B' := (W.heap.size + 1) :: B') ⟨?_, ?_, ?_, ?_, ?_⟩ (fun r hr => ?_)
          · exact hO2.os.trans bx.os
          · exact hO2.tape.trans bx.tape
          · exact hO2.output.trans bx.output
          · have := hO2.size
            simp at this ⊢
            omega
          · intro r hr hn
            simp only [List.mem_cons, not_or] at hn
            rw [hblk r hn.1, hO2.block r (by simp; omega) hn.2, bx.block r hr]
          · rcases List.mem_cons.1 hr with rfl | hr
            · exact .inr (by omega)
            · rcases hB' r hr with h | h
              · exact .inl h
              · exact .inr (by omega))
      clear hcall hS1 hS' hs hlow hlow' hB' hbox hO hnB bx hwr hw hS
      go_wp2_with (go_at_call 49; refine hcall'.mono ?_; rintro e W' ⟨rfl, cc, ff, HD⟩)
      go_roundw
      case rel =>
        obtain ⟨B2, d1, d2, d3, d4⟩ := HD
        refine ⟨k + 1, by omega, by go_num, ?_⟩
        rw [show Numb.num.nums M (t.args.take (k + 1)) s = _ from HN]
        exact ⟨B2, d1, d2, d3, d4⟩
      case measure => simp [intOf]; omega
    · have hall : t.args.take k = t.args := List.take_of_length_le (by omega)
      rw [hall] at hS' hbox
      obtain ⟨_, hhas, hcn⟩ := M.nums_has t.args s
      have hlen := M.nums_len t.args s
      have hsz := t.size_eq
      have hnd : (⟨t.v, t.fn, (Numb.num.nums M t.args s).2⟩ : Nd).cells = ndCells t.v t.fn t.args.length (Numb.num.nums M t.args s).2 := by
        unfold Nd.cells
        simp only [hlen]
      have hcall := hask B' _ ⟨t.v, t.fn, (Numb.num.nums M t.args s).2⟩ wr hS' hhas ⟨hv64, hf64, by simp only [hlen]; exact hl16, fun x hx => M.fit _ _ (hhas x hx)⟩ (by omega)
      rw [← (show M.num t s = _ from hR)] at hcall
      simp only [Nd.val, hnd] at hcall
      have hcall' := hcall.mono (R' := fun e W' => e = .returned (.int .i64 (M.num t s).2) ∧ M.Did B (M.num t s).1 W W') (by
        rintro e W' ⟨he, B2, g1, g2, g3⟩
        refine ⟨he, B2, g1, fun r hr => ?_, hO.trans g3 (fun r hr => ?_)⟩
        · rcases g2 r hr with h | h
          · rcases hB' r h with h | h
            · exact .inl h
            · exact .inr (by omega)
          · exact .inr (by have := hO.size; omega)
        · rcases hB' r hr with h | h
          · exact .inl h
          · exact .inr (by omega))
      have hcl := ndCells_len t.v t.fn t.args.length (Numb.num.nums M t.args s).2
      generalize ndCells t.v t.fn t.args.length (Numb.num.nums M t.args s).2 = cells at *
      clear hcall hS' hB' hO hnB hwr hw hS ih hask hall hlow hlow' hR hnd hhas hcn hsz hsub ha
      go_wp2_with (first
        | (refine wpList_load_node rfl _ rfl (W.heap.size + 1) rfl cells hbox hcl ?_)
        | (go_at_call 65; refine hcall'.mono ?_; rintro e W' ⟨rfl, HD⟩))
      go_ret
      exact ⟨rfl, HD⟩

theorem numMiss_any (M : Numb) (w0 : World) (hn0 : w0.heap.size ≤ M.n0) (Bp Bf : Nat) (hask : M.Asks 65 (fun v => #[v, .pointer (some ⟨Bp, 0, none⟩), .pointer (some ⟨Bf, 0, none⟩)])) (t : T) : M.NumAt w0 (.func (.func 65) #[] #[.pointer (some ⟨Bp, 0, none⟩), .pointer (some ⟨Bf, 0, none⟩)]) t := by
  induction t using T.ind with
  | _ t ih => exact numMiss_one M w0 hn0 Bp Bf hask t ih

end Go.Proofs.Ytbbfpllffcfmhaa
