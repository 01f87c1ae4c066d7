/-
  The document's vars and Vars; Ints.
-/
import Derived.Test.YtgnjgpplelakkaaUB
namespace Go.Proofs.Ytgnjgpplelakkaa
open Go.RowKit Go.Shelf

/-- What vars has so far. -/
structure VI (W1 : World) (base : Nat) (v : Value) (k : Nat) (xs : List Int) (W : World) : Prop where
  row : W.ownsRow base 3 1 v k (xs.map (Value.int .i64))
  bel : Below W1.heap.size W1 W

theorem VI.len {W1 : World} {base : Nat} {v : Value} {k : Nat} {xs : List Int} {W : World} (h : VI W1 base v k xs W) : xs.length = k := by simpa using h.row.1

theorem args_len (t : T) (l1 : List Int) (N : Nat) (hN : l1.length + ((t.args.map T.vs).flatten).length ≤ N) : ∀ i (h : i < t.args.length), (((t.args.take i).map T.vs).flatten.foldl wth l1).length + (T.vs t.args[i]).length ≤ N := by
  intro i h
  have h1 := wths_len (((t.args.take i).map T.vs).flatten) l1
  have h2 : (t.args.map T.vs).flatten = ((t.args.take i).map T.vs).flatten ++ (T.vs t.args[i] ++ ((t.args.drop (i + 1)).map T.vs).flatten) := by
    have h3 : t.args = t.args.take i ++ t.args[i] :: t.args.drop (i + 1) := by rw [List.getElem_cons_drop, List.take_append_drop]
    conv => lhs; rw [h3]
    rw [List.map_append, List.flatten_append, List.map_cons, List.flatten_cons]
  rw [h2] at hN
  simp only [List.length_append] at hN
  omega

set_option maxRecDepth 100000 in
set_option maxHeartbeats 4000000 in
theorem vars_any (t : T) : ∀ (base : Nat) (v : Value) (l : List Int) (sl : Value) (w : World), w.ownsRow base 3 1 v l.length (l.map (Value.int .i64)) → base ≤ w.heap.size → ArgsAt w sl t.args → l.length + t.vs.length ≤ 1048576 →
    Calls Try.prog 77 #[v, tval t sl] w fun e w' => ∃ v' k, e = .returned v' ∧ w'.ownsRow base 3 1 v' k ((t.vs.foldl wth l).map (Value.int .i64)) ∧ Below w.heap.size w w' := by
  induction t using T.ind with
  | _ t ih =>
    intro base v l sl w hrow hbase ha hN
    obtain ⟨a, c, rfl, hc, hm⟩ := ha.slice
    obtain ⟨t0, t1, t2⟩ := tbox_cells w t (.slice a t.args.length c)
    have hb0 := below_box w (tbox t (.slice a t.args.length c))
    have HA : Hid (ArgsAt (w.alloc (tbox t (.slice a t.args.length c))) (.slice a t.args.length c) t.args) := ArgsAt.keep hb0 (Nat.le_refl _) ha
    have hrow1 := row_below hrow hb0
    have HT : Hid ((w.alloc (tbox t (.slice a t.args.length c))).cell? ⟨w.heap.size, 2, none⟩ = some (.slice a t.args.length c)) := t2
    have HL : Hid (base ≤ w.heap.size) := hbase
    clear ha hrow hbase
    by_cases h0 : t.fn.size = 0
    · have hvs : t.vs = t.v :: (t.args.map T.vs).flatten := by rw [t.vs_eq, if_pos h0]; rfl
      have hdd : t.fn.toList.isEmpty = true := by rw [ba_isEmpty]; simp [h0]
      obtain ⟨l1, hl1⟩ : ∃ l1, wth l t.v = l1 := ⟨_, rfl⟩
      have HE : Hid ((t.args.map T.vs).flatten.foldl wth l1 = t.vs.foldl wth l) := by show _ = _; rw [hvs, List.foldl_cons, hl1]
      have HB : Hid (∀ i (h : i < t.args.length), (((t.args.take i).map T.vs).flatten.foldl wth l1).length + (T.vs t.args[i]).length ≤ 1048576) := args_len t l1 1048576 (by have := wth_len l t.v; rw [hl1] at this; rw [hvs, List.length_cons] at hN; omega)
      have hw := with_any base v l t.v (w.alloc (tbox t (.slice a t.args.length c))) hrow1 (by omega)
      rw [hl1] at hw
      obtain ⟨pv, pc0, rfl⟩ := row_form hrow1
      clear hvs hl1 hrow1 hN h0
      go_enter Try.func77, Try.ntmps77
      go_wp2_with (first | (go_at_call 108; refine hw.mono ?_; rintro e w2 ⟨v1, k1, rfl, hI⟩; have HV1 : Hid (VI (w.alloc (tbox t (.slice a t.args.length c))) base v1 k1 l1 w2) := ⟨row_low hI.row (by have := HL.out; simp; omega), hI.bel⟩; obtain ⟨pv1, pc1, rfl⟩ := row_form hI.row; clear hI))
      go_loopw [0, 5] (fun v0 ii wr => ∃ (i k : Nat), ii = .int .i64 i ∧ i ≤ t.args.length ∧ VI (w.alloc (tbox t (.slice a t.args.length c))) base v0 k (((t.args.take i).map T.vs).flatten.foldl wth l1) wr) (fun _ ii _ => t.args.length - (intOf ii).toNat)
      case atStart => exact ⟨0, _, rfl, Nat.zero_le _, HV1⟩
      case round =>
        obtain ⟨i, k, rfl, hi', hW⟩ := hrel
        have hb2 := hW.bel
        have hsz := hb2.size
        rw [World.size_alloc] at hsz
        obtain ⟨pa, pc, rfl⟩ := row_form hW.row
        have c2 := kc hb2 (by simp) HT.out
        by_cases hlt : i < t.args.length
        · have haw := ArgsAt.keep hb2 (by simp) HA.out
          obtain ⟨ba, oa, s, e0, hba, a0, a1, a2, hs⟩ := haw.nth hlt
          cases e0
          have he : Hid ((((t.args.take (i + 1)).map T.vs).flatten.foldl wth l1) = (T.vs t.args[i]).foldl wth (((t.args.take i).map T.vs).flatten.foldl wth l1)) := by
            show _ = _
            rw [List.take_succ_eq_append_getElem hlt, List.map_append, List.flatten_append, List.foldl_append]
            simp
          have hlen := HB.out i hlt
          obtain ⟨xs, hxs⟩ : ∃ xs, ((t.args.take i).map T.vs).flatten.foldl wth l1 = xs := ⟨_, rfl⟩
          rw [hxs] at hW he hlen
          clear hxs
          have hrow : wr.ownsRow base 3 1 (.slice pa k pc) xs.length (xs.map (Value.int .i64)) := by rw [hW.len]; exact hW.row
          have hlow : base ≤ wr.heap.size := by have := HL.out; omega
          have ih' := ih t.args[i] (List.getElem_mem hlt) base (.slice pa k pc) xs s wr hrow hlow hs hlen
          have HW : Hid (VI (w.alloc (tbox t (.slice (some ⟨ba, oa, none⟩) t.args.length c))) base (.slice pa k pc) k xs wr) := hW
          clear hW hrow hs haw hb2
          go_wp2_with (first | (go_at_call 77; refine ih'.mono ?_; rintro e w3 ⟨v3, k3, rfl, hr3, hb3⟩; have HI3 : Hid (VI (w.alloc (tbox t (.slice (some ⟨ba, oa, none⟩) t.args.length c))) base v3 k3 ((T.vs t.args[i]).foldl wth xs) w3) := ⟨hr3, HW.out.bel.trans (hb3.mono HW.out.bel.size)⟩; obtain ⟨pa3, pc3, rfl⟩ := row_form hr3; clear hr3 hb3))
          go_roundw
          case rel => exact ⟨i + 1, k3, by go_num, by omega, by rw [he]; exact HI3⟩
          case measure => simp [intOf]; omega
        · have hfin : Hid ((((t.args.take i).map T.vs).flatten.foldl wth l1) = t.vs.foldl wth l) := by
            show _ = _
            rw [List.take_of_length_le (by omega)]
            exact HE.out
          have HW : Hid (VI (w.alloc (tbox t (.slice a t.args.length c))) base (.slice pa k pc) k (((t.args.take i).map T.vs).flatten.foldl wth l1) wr) := hW
          clear hW
          go_wp2
          go_ret
          exact ⟨_, k, rfl, by rw [← hfin.out]; exact HW.out.row, (below_box w _).trans (HW.out.bel.mono (by simp))⟩
    · have hvs : t.vs = (t.args.map T.vs).flatten := by rw [t.vs_eq, if_neg h0]; rfl
      obtain ⟨l1, hl1⟩ : ∃ l1, l = l1 := ⟨_, rfl⟩
      have HE : Hid ((t.args.map T.vs).flatten.foldl wth l1 = t.vs.foldl wth l) := by show _ = _; rw [hvs, hl1]
      have HB : Hid (∀ i (h : i < t.args.length), (((t.args.take i).map T.vs).flatten.foldl wth l1).length + (T.vs t.args[i]).length ≤ 1048576) := args_len t l1 1048576 (by rw [← hl1]; rw [hvs] at hN; omega)
      have HV1 : Hid (VI (w.alloc (tbox t (.slice a t.args.length c))) base v l.length l1 (w.alloc (tbox t (.slice a t.args.length c)))) := ⟨by rw [← hl1]; exact hrow1, Below.refl _ _⟩
      have hds : decide (t.fn.size = 0) = false := by simp [h0]
      have hdd : t.fn.toList.isEmpty = false := by rw [ba_isEmpty]; exact hds
      obtain ⟨pv, pc0, rfl⟩ := row_form hrow1
      clear hvs hl1 hrow1 hN hds
      go_enter Try.func77, Try.ntmps77
      go_wp2
      go_loopw [0, 5] (fun v0 ii wr => ∃ (i k : Nat), ii = .int .i64 i ∧ i ≤ t.args.length ∧ VI (w.alloc (tbox t (.slice a t.args.length c))) base v0 k (((t.args.take i).map T.vs).flatten.foldl wth l1) wr) (fun _ ii _ => t.args.length - (intOf ii).toNat)
      case atStart => exact ⟨0, _, rfl, Nat.zero_le _, HV1⟩
      case round =>
        obtain ⟨i, k, rfl, hi', hW⟩ := hrel
        have hb2 := hW.bel
        have hsz := hb2.size
        rw [World.size_alloc] at hsz
        obtain ⟨pa, pc, rfl⟩ := row_form hW.row
        have c2 := kc hb2 (by simp) HT.out
        by_cases hlt : i < t.args.length
        · have haw := ArgsAt.keep hb2 (by simp) HA.out
          obtain ⟨ba, oa, s, e0, hba, a0, a1, a2, hs⟩ := haw.nth hlt
          cases e0
          have he : Hid ((((t.args.take (i + 1)).map T.vs).flatten.foldl wth l1) = (T.vs t.args[i]).foldl wth (((t.args.take i).map T.vs).flatten.foldl wth l1)) := by
            show _ = _
            rw [List.take_succ_eq_append_getElem hlt, List.map_append, List.flatten_append, List.foldl_append]
            simp
          have hlen := HB.out i hlt
          obtain ⟨xs, hxs⟩ : ∃ xs, ((t.args.take i).map T.vs).flatten.foldl wth l1 = xs := ⟨_, rfl⟩
          rw [hxs] at hW he hlen
          clear hxs
          have hrow : wr.ownsRow base 3 1 (.slice pa k pc) xs.length (xs.map (Value.int .i64)) := by rw [hW.len]; exact hW.row
          have hlow : base ≤ wr.heap.size := by have := HL.out; omega
          have ih' := ih t.args[i] (List.getElem_mem hlt) base (.slice pa k pc) xs s wr hrow hlow hs hlen
          have HW : Hid (VI (w.alloc (tbox t (.slice (some ⟨ba, oa, none⟩) t.args.length c))) base (.slice pa k pc) k xs wr) := hW
          clear hW hrow hs haw hb2
          go_wp2_with (first | (go_at_call 77; refine ih'.mono ?_; rintro e w3 ⟨v3, k3, rfl, hr3, hb3⟩; have HI3 : Hid (VI (w.alloc (tbox t (.slice (some ⟨ba, oa, none⟩) t.args.length c))) base v3 k3 ((T.vs t.args[i]).foldl wth xs) w3) := ⟨hr3, HW.out.bel.trans (hb3.mono HW.out.bel.size)⟩; obtain ⟨pa3, pc3, rfl⟩ := row_form hr3; clear hr3 hb3))
          go_roundw
          case rel => exact ⟨i + 1, k3, by go_num, by omega, by rw [he]; exact HI3⟩
          case measure => simp [intOf]; omega
        · have hfin : Hid ((((t.args.take i).map T.vs).flatten.foldl wth l1) = t.vs.foldl wth l) := by
            show _ = _
            rw [List.take_of_length_le (by omega)]
            exact HE.out
          have HW : Hid (VI (w.alloc (tbox t (.slice a t.args.length c))) base (.slice pa k pc) k (((t.args.take i).map T.vs).flatten.foldl wth l1) wr) := hW
          clear hW
          go_wp2
          go_ret
          exact ⟨_, k, rfl, by rw [← hfin.out]; exact HW.out.row, (below_box w _).trans (HW.out.bel.mono (by simp))⟩

set_option maxHeartbeats 1000000 in
theorem rvars_any (t : T) (sl : Value) (w : World) (ha : ArgsAt w sl t.args) (hN : t.vs.length ≤ 1048576) :
    Calls Try.prog 44 #[tval t sl] w fun e w' => ∃ v' k, e = .returned v' ∧ w'.ownsRow w.heap.size 3 1 v' k ((t.vs.foldl wth []).map (Value.int .i64)) ∧ Below w.heap.size w w' := by
  obtain ⟨a, c, rfl, hc, hm⟩ := ha.slice
  obtain ⟨t0, t1, t2⟩ := tbox_cells w t (.slice a t.args.length c)
  have hb0 := below_box w (tbox t (.slice a t.args.length c))
  have h1 := vars_any t w.heap.size (.slice none 0 0) [] (.slice a t.args.length c) (w.alloc (tbox t (.slice a t.args.length c))) (World.ownsRow_nil _ _ _ _) (by simp) (ArgsAt.keep hb0 (Nat.le_refl _) ha) (by simpa using hN)
  go_enter Try.func44, Try.ntmps44
  go_wp2_with (first | (go_at_call 77; refine h1.mono ?_; rintro e w2 ⟨v1, k1, rfl, hr, hb⟩; have HR : Hid (w2.ownsRow w.heap.size 3 1 v1 k1 ((t.vs.foldl wth []).map (Value.int .i64)) ∧ Below w.heap.size w w2) := ⟨hr, hb0.trans (hb.mono (by simp))⟩; obtain ⟨pv1, pc1, rfl⟩ := row_form hr; clear hr hb))
  go_ret
  exact ⟨_, k1, rfl, HR.out.1, HR.out.2⟩

end Go.Proofs.Ytgnjgpplelakkaa
