import Derived.Test.YtglphfhlpobgcaaGreatVD
import Derived.Test.YtglphfhlpobgcaaGreatWM

namespace Go.Proofs.YtglphfhlpobgcaaGreat
open Go.RowKit Go.Maps
theorem Tryz.info103f : (Tryz.prog.info? 129).map (fun i => (i.zero, i.size, i.bytes)) = some (some (.agg #[.int .i16 0, .int .i64 0, .slice none 0 0, .int .i64 0, .slice none 0 0]), 5, 72) := by kernel_rfl
abbrev z18 : Array Value := #[.int .i64 0, .int .i64 0, .int .i16 0, .int .i16 0, .int .i16 0, .int .i16 0, .int .i16 0, .int .i16 0, .int .i16 0, .int .i16 0, .int .i16 0, .int .i16 0, .int .i16 0, .int .i16 0, .int .i16 0, .int .i16 0, .int .i16 0, .int .i16 0]
set_option maxRecDepth 100000 in
set_option maxHeartbeats 4000000 in
theorem enter_one (w0 : World) (G : Sg) (Sy : List Sym) (V : List Int) (ρ : Sym → Nat) (H : Hs G Sy V ρ) (lb br bv bn : Nat) (t : T) (ih : ∀ a ∈ t.args, Ent w0 G Sy V ρ lb br bv bn a) : Ent w0 G Sy V ρ lb br bv bn t := by
  intro sl E vp W hL ha hw hsh hsy hvs hlen
  obtain ⟨a, c, rfl, hc, hm⟩ := ha.slice
  obtain ⟨W0, hW0⟩ : ∃ X, W.alloc (tbox t (.slice a t.args.length c)) = X := ⟨_, rfl⟩
  have hb0 : Below W.heap.size W W0 := by rw [← hW0]; exact below_box W _
  obtain ⟨x0, x1, x2⟩ := tbox_cells W t (.slice a t.args.length c)
  rw [hW0] at x0 x1 x2
  have s0 : W0.heap.size = W.heap.size + 1 := by rw [← hW0]; simp
  have hL0 := hL.below hb0
  obtain ⟨⟨l0, _, _, _⟩, _⟩ := hL0.cells
  have hlb0 : lb < W0.heap.size := hL0.there _ (by simp)
  obtain ⟨rk, hrk⟩ : ∃ rk, t.rk ρ = rk := ⟨_, rfl⟩
  have hlk : ∀ X, Below W0.heap.size W0 X → (Instr.lookup 73 (.map (some br)) (.agg #[.string t.fn, .int .i64 (t.args.length : Int)]) false).run Tryz.prog X = .ok (.int .i64 (rk : Int)) X := fun X hX => by rw [← hrk]; exact (hL0.below hX).look H hsh hsy
  have hsym : ∀ X, Calls Tryz.prog 82 #[tval t (.slice a t.args.length c)] X fun e X' => e = .returned (symv (t.fn, t.args.length)) ∧ Below X.heap.size X X' := fun X => symbolOf_any t _ X ⟨_, _, rfl⟩
  have HA : Hid (Ls w0.heap.size G Sy V ρ lb br bv bn E vp W ∧ Ls w0.heap.size G Sy V ρ lb br bv bn E vp W0 ∧ ArgsAt w0 (.slice a t.args.length c) t.args ∧ Below w0.heap.size w0 W ∧ t.shape = true ∧ (∀ s ∈ t.sy, s ∈ Sy) ∧ (∀ x ∈ t.vs, x ∈ V) ∧ E.length + t.size.toNat ≤ 8000 ∧ Below W.heap.size W W0 ∧ W0.heap.size = W.heap.size + 1 ∧ t.rk ρ = rk ∧ (∀ a ∈ t.args, Ent w0 G Sy V ρ lb br bv bn a)) := ⟨hL, hL0, ha, hw, hsh, hsy, hvs, hlen, hb0, s0, hrk, ih⟩
  clear hL hL0 ha hw hsh hsy hvs hlen hb0 hrk ih
  go_enter Tryz.func50, Tryz.ntmps50
  try rw [hW0]
  go_wp2
  try rw [hW0]
  have hd : Below W0.heap.size W0 W0.drew := (Below.refl _ W0).drew
  have hsd : W0.drew.heap.size = W0.heap.size := rfl
  have q0 : ∀ X, Below W0.drew.heap.size W0.drew X → X.cell? ⟨W.heap.size, 0, none⟩ = some (.int .i64 t.v) := fun X hX => kc (hd.trans hX) (by omega) x0
  have q1 : ∀ X, Below W0.drew.heap.size W0.drew X → X.cell? ⟨W.heap.size, 1, none⟩ = some (.string t.fn) := fun X hX => kc (hd.trans hX) (by omega) x1
  have q2 : ∀ X, Below W0.drew.heap.size W0.drew X → X.cell? ⟨W.heap.size, 2, none⟩ = some (.slice a t.args.length c) := fun X hX => kc (hd.trans hX) (by omega) x2
  have ql0 : ∀ X, Below W0.drew.heap.size W0.drew X → X.cell? ⟨lb, 0, none⟩ = some (.map (some br)) := fun X hX => kc (hd.trans hX) hlb0 l0
  have qlk : ∀ X, Below W0.drew.heap.size W0.drew X → (Instr.lookup 73 (.map (some br)) (.agg #[.string t.fn, .int .i64 (t.args.length : Int)]) false).run Tryz.prog X = .ok (.int .i64 (rk : Int)) X := fun X hX => hlk X (hd.trans hX)
  refine wp_region_held_drew (S := fun X => Below W0.drew.heap.size W0.drew X) (by kernel_rfl) (Below.refl _ _) (fun hHeld => ?_)
  generalize W0.drew = Wd at *
  refine take_mk 0 (.pointer (some ⟨lb, 0, none⟩)) rfl (by kernel_rfl) (by kernel_rfl) (by kernel_rfl) (fun _ _ _ h => h) (Or.inl ⟨by rfl, fun X hX => by go_simp⟩) (by assumption) ?_
  simp only [Act.put, List.setIfInBounds_toArray, List.set_cons_zero, List.set_cons_succ]
  refine take_mk 1 (.pointer (some ⟨lb, 0, none⟩)) rfl (by kernel_rfl) (by kernel_rfl) (by kernel_rfl) (fun _ _ _ h => h) (Or.inl ⟨by rfl, fun X hX => by go_simp⟩) (by assumption) ?_
  simp only [Act.put, List.setIfInBounds_toArray, List.set_cons_zero, List.set_cons_succ]
  refine take_mk 2 (.pointer (some ⟨lb, 0, none⟩)) rfl (by kernel_rfl) (by kernel_rfl) (by kernel_rfl) (fun _ _ _ h => h) (Or.inl ⟨by rfl, fun X hX => by go_simp⟩) (by assumption) ?_
  simp only [Act.put, List.setIfInBounds_toArray, List.set_cons_zero, List.set_cons_succ]
  refine take_mk 3 (.pointer (some ⟨lb, 0, none⟩)) rfl (by kernel_rfl) (by kernel_rfl) (by kernel_rfl) (fun _ _ _ h => h) (Or.inl ⟨by rfl, fun X hX => by go_simp⟩) (by assumption) ?_
  simp only [Act.put, List.setIfInBounds_toArray, List.set_cons_zero, List.set_cons_succ]
  refine take_mk 4 (.map (some br)) rfl (by kernel_rfl) (by kernel_rfl) (by kernel_rfl) (fun _ _ _ h => h) (Or.inl ⟨by rfl, fun X hX => by have := ql0 X hX; go_simp⟩) (by assumption) ?_
  simp only [Act.put, List.setIfInBounds_toArray, List.set_cons_zero, List.set_cons_succ]
  refine take_mk 5 (tval t (.slice a t.args.length c)) rfl (by kernel_rfl) (by kernel_rfl) (by kernel_rfl) (fun _ _ _ h => h) (Or.inl ⟨by rfl, fun X hX => by have := q0 X hX; have := q1 X hX; have := q2 X hX; go_simp⟩) (by assumption) ?_
  simp only [Act.put, List.setIfInBounds_toArray, List.set_cons_zero, List.set_cons_succ]
  refine take_mk 8 (.pointer (some ⟨W.heap.size, 0, none⟩)) rfl (by kernel_rfl) (by kernel_rfl) (by kernel_rfl) (fun _ _ _ h => h) (Or.inl ⟨by rfl, fun X hX => by go_simp⟩) (by assumption) ?_
  simp only [Act.put, List.setIfInBounds_toArray, List.set_cons_zero, List.set_cons_succ]
  refine take_mk 9 (.int .i64 t.v) rfl (by kernel_rfl) (by kernel_rfl) (by kernel_rfl) (fun _ _ _ h => h) (Or.inl ⟨by rfl, fun X hX => by have := q0 X hX; go_simp⟩) (by assumption) ?_
  simp only [Act.put, List.setIfInBounds_toArray, List.set_cons_zero, List.set_cons_succ]
  refine wpAnyH_ready (rs := [6, 11]) (by kernel_rfl) (by simp) (AllReadyH.cons (o := ⟨_, _, _, _, _, _⟩) rfl (fun K hK => ?call0) (AllReadyH.cons (o := ⟨_, _, _, _, _, _⟩) rfl (fun K hK => ?alloc0) AllReadyH.nil))
  case' call0 =>
    rw [if_pos (by rfl)]
    go_simp
    refine (hsym _).mono ?_
    rintro e X6 ⟨rfl, hb6⟩
    refine hK.out _ _ (hHeld.trans (hb6.mono hHeld.size)) (fun hHeld6 => ?_)
    clear hK K
    try simp only [Act.put, List.setIfInBounds_toArray, List.set_cons_zero, List.set_cons_succ]
    refine take_mk 7 (.int .i64 (rk : Int)) rfl (by kernel_rfl) (by kernel_rfl) (by kernel_rfl) (fun _ _ _ h => h) (Or.inl ⟨by rfl, fun X hX => by have := qlk X hX; go_simp⟩) (by assumption) ?_
    simp only [Act.put, List.setIfInBounds_toArray, List.set_cons_zero, List.set_cons_succ]
    refine take_mk 10 (.agg (ndC rk t.v []).toArray) rfl (by kernel_rfl) (by kernel_rfl) (by kernel_rfl) (fun _ _ _ h => h) (Or.inl ⟨by rfl, fun X hX => by have := run_build_node (rk : Int) t.v X; unfold ndC; go_simp; rfl⟩) (by assumption) ?_
    simp only [Act.put, List.setIfInBounds_toArray, List.set_cons_zero, List.set_cons_succ]
    refine wpAnyH_ready (rs := [11]) (by kernel_rfl) (by simp) (AllReadyH.cons (o := ⟨_, _, _, _, _, _⟩) rfl (fun K hK => ?_) AllReadyH.nil)
    rw [if_pos (by rfl)]
    go_simp
    obtain ⟨XA, eA⟩ : ∃ X, X6.alloc (.cells z18 123) = X := ⟨_, rfl⟩
    have hbA : Below X6.heap.size X6 XA := by rw [← eA]; exact below_box _ _
    have hxA : XA.heap[X6.heap.size]? = some (.cells z18 123 (0, 0)) := by rw [← eA]; exact (MapKept.heap_alloc _ _).1
    obtain ⟨nb, hnb⟩ : ∃ nb, X6.heap.size = nb := ⟨_, rfl⟩
    refine hK.out _ _ (hHeld6.trans ((below_box _ _).mono hHeld6.size)) (fun hHeldA => ?_)
    rw [eA] at hHeldA ⊢
    rw [hnb] at hxA ⊢
    clear hK K
    try simp only [Act.put, List.setIfInBounds_toArray, List.set_cons_zero, List.set_cons_succ]
    have hsz6 := hHeld6.size
    refine wpAnyH_ready (rs := [12]) (by kernel_rfl) (by simp) (AllReadyH.cons (o := ⟨_, _, _, _, _, _⟩) rfl (fun K hK => ?_) AllReadyH.nil)
    rw [if_pos (by rfl)]
    obtain ⟨Wf, hrun, hbf, hof⟩ := store_node XA nb _ rfl hxA (ndC rk t.v []) (ndC_len _ _ _) (nd_one _ _ _)
    refine wp_store_run 123 _ _ rfl (.pointer (some ⟨nb, 0, none⟩)) (.agg (ndC rk t.v []).toArray) rfl rfl hrun ?_
    have hbelf : Below Wd.heap.size Wd Wf := hHeldA.trans (hof.below hHeldA.size (by simp; omega))
    refine hK.out _ _ hbelf (fun _ => ?_)
    clear hK K
    refine wpAnyH_done (by kernel_rfl) ?_ _
    simp only [Act.put]
    have HN : Hid (Wf.heap[nb]? = some (.cells (ndC rk t.v []).toArray 123 (0, 0)) ∧ Below W0.heap.size W0 Wf ∧ W0.heap.size ≤ nb) := ⟨hbf, hd.trans (hbelf.mono (Nat.le_of_eq hsd.symm)), by omega⟩
    clear hHeldA hxA hbA hrun hbf hof hbelf eA hnb hsz6 hb6 hHeld6
  case' alloc0 =>
    rw [if_pos (by rfl)]
    go_simp
    obtain ⟨XA, eA⟩ : ∃ X, Wd.alloc (.cells z18 123) = X := ⟨_, rfl⟩
    have hbA : Below Wd.heap.size Wd XA := by rw [← eA]; exact below_box _ _
    have hxA : XA.heap[Wd.heap.size]? = some (.cells z18 123 (0, 0)) := by rw [← eA]; exact (MapKept.heap_alloc _ _).1
    obtain ⟨nb, hnb⟩ : ∃ nb, W.heap.size + 1 = nb := ⟨_, rfl⟩
    have hWd : Wd.heap.size = W.heap.size + 1 := by omega
    refine hK.out _ _ (hHeld.trans ((below_box _ _).mono hHeld.size)) (fun hHeldA => ?_)
    rw [eA] at hHeldA ⊢
    rw [hWd, hnb] at hxA
    rw [hnb]
    clear hK K
    try simp only [Act.put, List.setIfInBounds_toArray, List.set_cons_zero, List.set_cons_succ]
    refine wpAnyH_ready (rs := [6]) (by kernel_rfl) (by simp) (AllReadyH.cons (o := ⟨_, _, _, _, _, _⟩) rfl (fun K hK => ?_) AllReadyH.nil)
    rw [if_pos (by rfl)]
    go_simp
    refine (hsym _).mono ?_
    rintro e X6 ⟨rfl, hb6⟩
    refine hK.out _ _ (hHeldA.trans (hb6.mono hHeldA.size)) (fun hHeld6 => ?_)
    clear hK K
    try simp only [Act.put, List.setIfInBounds_toArray, List.set_cons_zero, List.set_cons_succ]
    refine take_mk 7 (.int .i64 (rk : Int)) rfl (by kernel_rfl) (by kernel_rfl) (by kernel_rfl) (fun _ _ _ h => h) (Or.inl ⟨by rfl, fun X hX => by have := qlk X hX; go_simp⟩) (by assumption) ?_
    simp only [Act.put, List.setIfInBounds_toArray, List.set_cons_zero, List.set_cons_succ]
    refine take_mk 10 (.agg (ndC rk t.v []).toArray) rfl (by kernel_rfl) (by kernel_rfl) (by kernel_rfl) (fun _ _ _ h => h) (Or.inl ⟨by rfl, fun X hX => by have := run_build_node (rk : Int) t.v X; unfold ndC; go_simp; rfl⟩) (by assumption) ?_
    simp only [Act.put, List.setIfInBounds_toArray, List.set_cons_zero, List.set_cons_succ]
    have hxZ := (hb6.block nb (Array.getElem?_eq_some_iff.1 hxA).1).trans hxA
    have hsz6 := hHeld6.size
    refine wpAnyH_ready (rs := [12]) (by kernel_rfl) (by simp) (AllReadyH.cons (o := ⟨_, _, _, _, _, _⟩) rfl (fun K hK => ?_) AllReadyH.nil)
    rw [if_pos (by rfl)]
    obtain ⟨Wf, hrun, hbf, hof⟩ := store_node X6 nb _ rfl hxZ (ndC rk t.v []) (ndC_len _ _ _) (nd_one _ _ _)
    refine wp_store_run 123 _ _ rfl (.pointer (some ⟨nb, 0, none⟩)) (.agg (ndC rk t.v []).toArray) rfl rfl hrun ?_
    have hbelf : Below Wd.heap.size Wd Wf := hHeld6.trans (hof.below hHeld6.size (by simp; omega))
    refine hK.out _ _ hbelf (fun _ => ?_)
    clear hK K
    refine wpAnyH_done (by kernel_rfl) ?_ _
    simp only [Act.put]
    have HN : Hid (Wf.heap[nb]? = some (.cells (ndC rk t.v []).toArray 123 (0, 0)) ∧ Below W0.heap.size W0 Wf ∧ W0.heap.size ≤ nb) := ⟨hbf, hd.trans (hbelf.mono (Nat.le_of_eq hsd.symm)), by omega⟩
    clear hHeldA hxA hbA hrun hbf hof hbelf eA hnb hsz6 hb6 hHeld6 hxZ hWd
  all_goals
    have HX : Hid (W0.heap[W.heap.size]? = some (.cells #[.int .i64 t.v, .string t.fn, .slice a t.args.length c] 30 (0, 0))) := by
      have := (MapKept.heap_alloc W (tbox t (.slice a t.args.length c))).1
      rw [hW0] at this
      exact this
    have HV : Hid (Lv w0.heap.size G Sy V ρ lb br bv bn E vp W t (.slice a t.args.length c) rk nb 0 [] E vp Wf) := by
      have hA := HA.out
      have hb := HN.out.2.1
      have hbW : Below W.heap.size W Wf := hA.2.2.2.2.2.2.2.2.1.trans (hb.mono (by omega))
      refine ⟨hA.2.1.below hb, HN.out.1, (hb.block _ (by omega)).trans HX.out, by simp [Idx], Only.of_below hbW, List.prefix_refl _, by simp [sizs], fun g hg => .inl hg, ?_⟩
      have := HN.out.2.2
      omega
    have y2 : Wf.cell? ⟨W.heap.size, 2, none⟩ = some (.slice a t.args.length c) := kc HN.out.2.1 (by omega) x2
    clear hHeld hd hsd q0 q1 q2 ql0 qlk hlk hsym x0 x1 x2 l0 hlb0 HN HX hW0
    go_wp2
    go_loopw [25] (fun vi wr => ∃ i : Nat, vi = .int .i64 i ∧ i ≤ t.args.length ∧ Hid (∃ ids E1 vp1, Lv w0.heap.size G Sy V ρ lb br bv bn E vp W t (.slice a t.args.length c) rk nb i ids E1 vp1 wr)) (fun vi _ => t.args.length - (intOf vi).toNat)
    case atStart => exact ⟨0, rfl, Nat.zero_le _, [], E, vp, HV.out⟩
    case round =>
      obtain ⟨i, rfl, hi, HI⟩ := hrel
      obtain ⟨ids, E1, vp1, hv⟩ := HI.out
      clear HI y2
      obtain ⟨gL, gL0, gA, gw, gsh, gsy, gvs, gln, gb0, gs0, grk, gih⟩ := HA.out
      have hwr : Below w0.heap.size w0 wr := gw.trans (hv.on.below gw.size gL.lows)
      by_cases hlt : i < t.args.length
      · obtain ⟨h16, gsub⟩ : t.args.length ≤ 16 ∧ ∀ u ∈ t.args, u.shape = true := by
          rcases shape_cases gsh with ⟨_, _, _, e⟩ | ⟨_, _, _, h16, hsub⟩
          · rw [e] at hlt; exact absurd hlt (by simp)
          · exact ⟨h16, hsub⟩
        obtain ⟨b1, o1, s1, rfl, hb1, c0, c1, c2, hs⟩ := gA.nth hlt
        obtain ⟨sa, sc, rfl, _, _⟩ := hs.slice
        have d0 := kc hwr hb1 c0
        have d1 := kc hwr hb1 c1
        have d2 := kc hwr hb1 c2
        have hbB := below_box wr (tbox t.args[i] (.slice sa t.args[i].args.length sc))
        have hvB := hv.below hbB
        have hz := sizs_take hlt
        have hza := sizs_arg t
        have hln := hv.ln
        have hcall := gih _ (List.getElem_mem hlt) _ E1 vp1 _ hvB.ls hs (hwr.trans (hbB.mono hwr.size)) (gsub _ (List.getElem_mem hlt)) (fun s hs => gsy s (sy_arg (List.getElem_mem hlt) hs)) (fun x hx => gvs x (vs_arg (List.getElem_mem hlt) hx)) (by omega)
        have hcall' := hcall.mono (R' := fun e W' => ∃ k, e = .returned (fi k) ∧ W'.cell? ⟨nb, 2 + i, none⟩ = some (fi 0) ∧ W'.frozen? ⟨nb, 2 + i, none⟩ = false ∧ Hid (∃ ids E1 vp1, Lv w0.heap.size G Sy V ρ lb br bv bn E vp W t (.slice (some ⟨b1, o1, none⟩) t.args.length c) rk nb (i + 1) ids E1 vp1 (W'.setCell ⟨nb, 2 + i, none⟩ (fi k)))) (by
          rintro e W' ⟨k, E2, vp2, he, hL2, hpre, hl2, hk2, ho2, hown2⟩
          obtain ⟨⟨q1, q2⟩, q3⟩ := hvB.next hlt h16 hL2 hpre hl2 hk2 ho2 hown2
          exact ⟨k, he, q1, q2, _, _, _, q3⟩)
        clear hcall hvB hbB hz hza hln hs c0 c1 c2 hwr gL gL0 gA gw gsh gsy gvs gln gb0 gs0 grk gih gsub hv HV hb1
        obtain ⟨u, hu⟩ : ∃ u, t.args[i] = u := ⟨_, rfl⟩
        rw [hu] at hcall' d0 d1 d2
        obtain ⟨WB, hWB⟩ : ∃ X, wr.alloc (tbox u (.slice sa u.args.length sc)) = X := ⟨_, rfl⟩
        obtain ⟨b0, b1', b2⟩ := tbox_cells wr u (.slice sa u.args.length sc)
        rw [hWB] at hcall' b0 b1' b2
        clear hu
        have hi16 : i < 16 := by omega
        go_wp2_with fail
        try rw [hWB]
        go_wp2_with (first | (go_at_call 50; refine hcall'.mono ?_; rintro e W' ⟨k, rfl, cc, ff, HD⟩))
        go_roundw
        case rel => exact ⟨i + 1, by go_num, by omega, HD⟩
        case measure => simp [intOf]; omega
      · have hall : t.args.take i = t.args := List.take_of_length_le (by omega)
        have hix := hv.ix
        rw [hall] at hix
        have hza := sizs_arg t
        have hln := hv.ln
        rw [hall] at hln
        have hcl : (ndC rk t.v ids).length = 18 := ndC_len _ _ _
        have hnd := hv.nd
        obtain ⟨cs, hcs⟩ : ∃ cs, ndC rk t.v ids = cs := ⟨_, rfl⟩
        have hfind := fun X (hX : Below wr.heap.size wr X) => (hv.ls.below hX).find H (by omega) gsh gsy hix
        rw [grk] at hfind
        have hfind' : ∀ X, Below wr.heap.size wr X → (∀ k (hk : k < E1.length), E1[k].t = t → (Instr.lookup 78 (.map (some bn)) (.agg cs.toArray) true).run Tryz.prog X = .ok (.tuple #[fi k, .bool true]) X) ∧
            (t ∉ E1.map (·.t) → (Instr.lookup 78 (.map (some bn)) (.agg cs.toArray) true).run Tryz.prog X = .ok (.tuple #[fi 0, .bool false]) X ∧ ∃ W', (Instr.mapUpdate 78 (.map (some bn)) (.agg cs.toArray) (fi E1.length)).run Tryz.prog X = .ok () W' ∧ MapIs W' 123 bn (upd (nmap ρ (E1.map Pe.p)) (ndV (t.rk ρ) t.v ids) (fi E1.length)) (E1.length + 1) ∧ Only [bn] X W') := fun X hX => by
          rw [← hcs, grk]
          exact hfind X hX
        clear hfind
        rw [hcs] at hcl hnd
        obtain ⟨⟨l0, l1, l2, l3⟩, lf⟩ := hv.ls.cells
        have hbd : ∀ q, Below wr.heap.size wr (wr.drewN q) := fun q => below_drewN (Below.refl _ _) q
        have hlbx : ∀ q, (wr.drewN q).heap[nb]? = some (.cells cs.toArray 123 (0, 0)) := fun q => ((hbd q).block _ (Array.getElem?_eq_some_iff.1 hnd).1).trans hnd
        by_cases hin : t ∈ E1.map (·.t)
        · obtain ⟨k, hk, hke⟩ : ∃ k, ∃ hk : k < E1.length, E1[k].t = t := by
            obtain ⟨k, hk, e⟩ := List.getElem_of_mem hin
            exact ⟨k, by simpa using hk, by simpa using e⟩
          have hlk : ∀ q, (Instr.lookup 78 (.map (some bn)) (.agg cs.toArray) true).run Tryz.prog (wr.drewN q) = .ok (.tuple #[.int .i16 (k : Int), .bool true]) (wr.drewN q) := fun q => (hfind' _ (hbd q)).1 k hk hke
          have HF : Hid (∀ q, ∃ k' E' vp', Ending.returned (.int .i16 (k : Int)) = .returned (fi k') ∧ Ls w0.heap.size G Sy V ρ lb br bv bn E' vp' (wr.drewN q) ∧ E <+: E' ∧ E'.length ≤ E.length + t.size.toNat ∧ (∃ h : k' < E'.length, E'[k'].t = t) ∧ Only (lbs lb bn vp) W (wr.drewN q) ∧ (∀ g, vp'.ownBlock = some g → vp.ownBlock = some g ∨ W.heap.size ≤ g)) := fun q => by
            have h2 := hv.below (hbd q)
            exact ⟨k, E1, vp1, rfl, h2.ls, h2.pre, by omega, ⟨hk, hke⟩, h2.on, h2.own⟩
          clear hfind' hin hke hix hza hln hall hv hwr gL gL0 gA gw gsh gsy gvs gln gb0 gs0 grk gih HV hnd l0 l1 l3 lf hcs hk
          go_wp2
          refine wp_region_quiet_lit (by kernel_rfl) (by kernel_rfl) ?_
          repeat (first | (refine wpQuiet_load_node rfl _ rfl nb rfl cs hcl (fun w ⟨q, hq⟩ => by rw [hq]; exact hlbx q) ?_) | quiet_step (fail))
          refine wpQuiet_nil ?_
          intro _ hw'
          obtain ⟨nq, hw''⟩ := hw'
          subst hw''
          go_wp2
          go_ret
          exact HF.out nq
        · have hlk : ∀ q, (Instr.lookup 78 (.map (some bn)) (.agg cs.toArray) true).run Tryz.prog (wr.drewN q) = .ok (.tuple #[.int .i16 0, .bool false]) (wr.drewN q) := fun q => ((hfind' _ (hbd q)).2 hin).1
          have HP : Hid (∀ X, Below wr.heap.size wr X → ∃ W', (Instr.mapUpdate 78 (.map (some bn)) (.agg cs.toArray) (fi E1.length)).run Tryz.prog X = .ok () W' ∧ MapIs W' 123 bn (upd (nmap ρ (E1.map Pe.p)) (ndV (t.rk ρ) t.v ids) (fi E1.length)) (E1.length + 1) ∧ Only [bn] X W') := fun X hX => ((hfind' X hX).2 hin).2
          have HVi : Hid (Lv w0.heap.size G Sy V ρ lb br bv bn E vp W t (.slice a t.args.length c) rk nb i ids E1 vp1 wr ∧ Idx (E1.map (·.t)) ids t.args ∧ E1.length ≤ E.length + sizs t.args ∧ t ∉ E1.map (·.t) ∧ ndC rk t.v ids = cs) := ⟨hv, hix, hln, hin, hcs⟩
          obtain ⟨pa, pc, rfl⟩ := row_slice hv.ls.row
          have hE : E1.length ≤ 8000 := by omega
          clear hfind' hin hix hza hln hall hv hwr gL gL0 gA gw gsh gsy gvs gln gb0 gs0 grk gih HV hcs
          go_wp2
          refine wp_region_quiet_lit (by kernel_rfl) (by kernel_rfl) ?_
          repeat (first | (refine wpQuiet_load_node rfl _ rfl nb rfl cs hcl (fun w ⟨q, hq⟩ => by rw [hq]; exact hlbx q) ?_) | quiet_step (fail))
          refine wpQuiet_nil ?_
          intro _ hw'
          obtain ⟨nq, hw''⟩ := hw'
          subst hw''
          go_wp2
          have hv1 := HVi.out.1.below (hbd nq)
          obtain ⟨w1, hw1⟩ : ∃ X, wr.drewN nq = X := ⟨_, rfl⟩
          have hbw1 : Below wr.heap.size wr w1 := hw1 ▸ hbd nq
          rw [hw1] at hv1 ⊢
          clear l0 l1 l2 l3 lf hlk hlbx hbd hnd hw1
          have hd1 : Below w1.heap.size w1 w1.drew := (Below.refl _ w1).drew
          have hvd := hv1.below hd1
          obtain ⟨⟨l0, l1, l2, l3⟩, lf⟩ := hvd.ls.cells
          have hnd := hvd.nd
          rw [HVi.out.2.2.2.2] at hnd
          have hap := hvd.ls.apart
          have hnbn : nb ≠ bn := fun e => by
            obtain ⟨es, cc, hm⟩ := hvd.ls.mn.isMap
            rw [← e, hnd] at hm
            cases hm
          have ql2 : ∀ X, Only [bn] w1.drew X → X.cell? ⟨lb, 2, none⟩ = some (.map (some bn)) := fun X hX => cell_on hX (by simpa using hap.1) l2
          have qnd : ∀ X, Only [bn] w1.drew X → X.heap[nb]? = some (.cells cs.toArray 123 (0, 0)) := fun X hX => (hX.block nb (Array.getElem?_eq_some_iff.1 hnd).1 (by simpa using hnbn)).trans hnd
          obtain ⟨X1, hrun, hM, hO⟩ := HP.out w1.drew (hbw1.trans (hd1.mono hbw1.size))
          have HV1 : Hid (Lv w0.heap.size G Sy V ρ lb br bv bn E vp W t (.slice a t.args.length c) rk nb i ids E1 (.slice pa E1.length pc) w1.drew) := hvd
          have HO : Hid (MapIs X1 123 bn (upd (nmap ρ (E1.map Pe.p)) (ndV (t.rk ρ) t.v ids) (fi E1.length)) (E1.length + 1) ∧ Only [bn] w1.drew X1) := ⟨hM, hO⟩
          refine wp_region_held_drew (S := fun X => Only [bn] w1.drew X) (by kernel_rfl) (Only.refl _ _) (fun hHeld => ?_)
          clear hv1 hvd hd1 hbw1 hap hnbn hM HP l0 l1 l2 l3 lf hnd
          generalize w1.drew = Wq at *
          refine take_mk 0 (.pointer (some ⟨lb, 0, none⟩)) rfl (by kernel_rfl) (by kernel_rfl) (by kernel_rfl) (fun _ _ _ h => h) (Or.inl ⟨by rfl, fun X hX => by go_simp⟩) (by assumption) ?_
          simp only [Act.put, List.setIfInBounds_toArray, List.set_cons_zero, List.set_cons_succ]
          refine take_mk 1 (.pointer (some ⟨lb, 0, none⟩)) rfl (by kernel_rfl) (by kernel_rfl) (by kernel_rfl) (fun _ _ _ h => h) (Or.inl ⟨by rfl, fun X hX => by go_simp⟩) (by assumption) ?_
          simp only [Act.put, List.setIfInBounds_toArray, List.set_cons_zero, List.set_cons_succ]
          refine take_mk 2 (.pointer (some ⟨lb, 2, none⟩)) rfl (by kernel_rfl) (by kernel_rfl) (by kernel_rfl) (fun _ _ _ h => h) (Or.inl ⟨by rfl, fun X hX => by go_simp⟩) (by assumption) ?_
          simp only [Act.put, List.setIfInBounds_toArray, List.set_cons_zero, List.set_cons_succ]
          refine take_mk 3 (.map (some bn)) rfl (by kernel_rfl) (by kernel_rfl) (by kernel_rfl) (fun _ _ _ h => h) (Or.inl ⟨by rfl, fun X hX => by have := ql2 X hX; go_simp⟩) (by assumption) ?_
          simp only [Act.put, List.setIfInBounds_toArray, List.set_cons_zero, List.set_cons_succ]
          refine take_mk 4 (.agg cs.toArray) rfl (by kernel_rfl) (by kernel_rfl) (by kernel_rfl) (fun _ _ _ h => h) (yieldsIf_load_node rfl _ rfl nb rfl cs hcl qnd) (by assumption) ?_
          simp only [Act.put, List.setIfInBounds_toArray, List.set_cons_zero, List.set_cons_succ]
          refine take_mk 5 (fi E1.length) rfl (by kernel_rfl) (by kernel_rfl) (by kernel_rfl) (fun _ _ _ h => h) (Or.inl ⟨by rfl, fun X hX => by go_simp⟩) (by assumption) ?_
          simp only [Act.put, List.setIfInBounds_toArray, List.set_cons_zero, List.set_cons_succ]
          refine wpAnyH_ready (rs := [6]) (by kernel_rfl) (by simp) (AllReadyH.cons (o := ⟨_, _, _, _, _, _⟩) rfl (fun K hK => ?_) AllReadyH.nil)
          rw [if_pos (by rfl)]
          refine wp_mapUpdate_run 78 _ _ _ rfl (.map (some bn)) (.agg cs.toArray) (fi E1.length) rfl rfl rfl hrun ?_
          refine hK.out _ _ hO (fun _ => ?_)
          clear hK K
          refine wpAnyH_done (by kernel_rfl) ?_ _
          simp only [Act.put]
          clear hrun hO qnd ql2 hHeld
          go_wp2
          obtain ⟨gL, gL0, gA, gw, gsh, gsy, gvs, gln, gb0, gs0, grk, gih⟩ := HA.out
          have hL := HV1.out
          obtain ⟨_, hix, hln, hno, hcs⟩ := HVi.out
          have hO1d : Only [bn] Wq X1.drew := HO.out.2.trans (Only.of_below (B := []) (Below.refl _ X1).drew) (by simp)
          have hM1d : MapIs X1.drew 123 bn (upd (nmap ρ (E1.map Pe.p)) (ndV (t.rk ρ) t.v ids) (fi E1.length)) (E1.length + 1) := HO.out.1.same (((Below.refl X1.heap.size X1).drew).block bn HO.out.1.lt)
          obtain ⟨tp, htp⟩ : ∃ tp, t.top ρ = tp := ⟨_, rfl⟩
          obtain ⟨⟨l0, l1, l2, l3⟩, lf⟩ := hL.ls.cells
          have hap := hL.ls.apart
          have o3 : X1.drew.cell? ⟨lb, 3, none⟩ = some (.slice pa E1.length pc) := cell_on hO1d (by simpa using hap.1) l3
          have offn := hL.ls.off hL.nd (by decide) (by decide)
          have offt := hL.ls.off hL.tb (by decide) (by decide)
          have hnd := hL.nd
          rw [hcs] at hnd
          have hwlt := (Array.getElem?_eq_some_iff.1 hL.tb).1
          have hnlt := (Array.getElem?_eq_some_iff.1 hL.nd).1
          have hnd1 : X1.drew.heap[nb]? = some (.cells cs.toArray 123 (0, 0)) := (hO1d.block nb hnlt (fun h => offn (by simp at h; simp [h]))).trans hnd
          have htb1 : X1.drew.heap[W.heap.size]? = some (.cells #[.int .i64 t.v, .string t.fn, .slice a t.args.length c] 30 (0, 0)) := (hO1d.block _ hwlt (fun h => offt (by simp at h; simp [h]))).trans hL.tb
          have q2 : ∀ X, Only (lbs lb bn (.slice pa E1.length pc)) X1.drew X → X.cell? ⟨W.heap.size, 2, none⟩ = some (.slice a t.args.length c) := fun X hX => cell_on hX offt (by rw [cell_of_row _ _ _ _ 30 (0, 0) htb1]; rfl)
          have qnd : ∀ X, Only (lbs lb bn (.slice pa E1.length pc)) X1.drew X → X.heap[nb]? = some (.cells cs.toArray 123 (0, 0)) := fun X hX => (hX.block nb (Array.getElem?_eq_some_iff.1 hnd1).1 offn).trans hnd1
          have hsz := sizs_arg t
          have hil : ids.length = t.args.length := hix.len
          have hvv : 0 ≤ t.v ∧ t.v < 1000000 := by
            rcases shape_cases gsh with ⟨_, h1, h2, _⟩ | ⟨_, h1, _⟩
            · exact ⟨h1, h2⟩
            · rw [h1]; decide
          have h16 : t.args.length ≤ 16 := by
            rcases shape_cases gsh with ⟨_, _, _, e⟩ | ⟨_, _, _, h16, _⟩
            · rw [e]; simp
            · exact h16
          have hrk0 : rk = 0 ↔ t.fn.size = 0 := by
            rw [← grk]
            unfold T.rk
            by_cases h0 : t.fn.size = 0
            · simp [h0]
            · rw [if_neg h0]
              have := H.rk.pos _ (gsy _ (sy_self h0))
              exact ⟨fun e => by omega, fun e => absurd e h0⟩
          have hbuilt := built_any ρ V lb br bv bn pa E1.length pc E1.length rk t.v ids t.args X1.drew (hL.ls.rd hO1d hix rfl) hil (by omega) (by have := H.ln; omega) hvv (fun e => by
            have h0 := hrk0.1 e
            refine ⟨gvs _ ?_, ?_⟩
            · rw [t.vs_eq, if_pos h0]; simp
            · rcases shape_cases gsh with ⟨_, _, _, e⟩ | ⟨h0', _⟩
              · rw [e] at hil; exact List.length_eq_zero_iff.1 hil
              · exact absurd h0 h0')
          have hbuilt' := hbuilt.mono (R' := fun e W' => ∃ sb scc sv sn, e = .returned (.agg #[fi E1.length, .int .i64 (rk : Int), .slice (some ⟨sb, 0, none⟩) ids.length scc, .int .i64 (tp : Int), setV sv sn]) ∧ Hid (∃ ws, RowB fi 83 W' (.slice (some ⟨sb, 0, none⟩) ids.length scc) ids ∧ RowB fu 194 W' (setV sv sn) ws ∧ Bits (fun x => (ixI V x).getD 0) ((V.length + 63) / 64) t.vs ws) ∧ Below X1.drew.heap.size X1.drew W') (by
            rintro e W' ⟨sA, bs, ws, rfl, hra, hrv, hbt, hbel⟩
            obtain ⟨sb, scur, scc, rfl, _, _, _, _⟩ := id hra
            refine ⟨sb, scc, bs, ws.length, ?_, ⟨ws, hra, hrv, ?_⟩, hbel⟩
            · rw [← htp, t.top_eq, grk]
            · refine hbt.congr fun x => ?_
              rw [t.vs_eq]
              by_cases h0 : t.fn.size = 0
              · rw [if_pos h0, if_pos (hrk0.2 h0)]
              · rw [if_neg h0, if_neg (fun e => h0 (hrk0.1 e))])
          have hrow1 : ∀ X3, Below X1.drew.heap.size X1.drew X3 → X3.ownsRow w0.heap.size 129 5 (.slice pa E1.length pc) E1.length (flatP ρ E1) := fun X3 hX3 => rowL_keep hL.ls.row (fun g hg => by
            obtain ⟨_, cur, hgc⟩ := row_block hL.ls.row hg
            have hglt := (Array.getElem?_eq_some_iff.1 hgc).1
            exact (hX3.block g (Nat.lt_of_lt_of_le hglt hO1d.size)).trans (hO1d.block g hglt (by simpa using (hap.2 g hg).2)))
          have hbase : ∀ X3, Below X1.drew.heap.size X1.drew X3 → w0.heap.size ≤ X3.heap.size := fun X3 hX3 => by
            have h1 := hX3.size
            have h2 := hO1d.size
            have h3 := hL.on.size
            have h4 := gw.size
            omega
          have hset : ∀ (sb scc sv sn : Nat) (X2 X3 X4 : World), Below X1.drew.heap.size X1.drew X3 → X3.grownBy X4 ((.slice pa E1.length pc) : Value).ownBlock → X4.cell? ⟨lb, 3, none⟩ = some (.slice pa E1.length pc) ∧ X4.frozen? ⟨lb, 3, none⟩ = false := fun _ _ _ _ X2 X3 X4 hX3 hg => by
            have hlt := hL.ls.there lb (by simp)
            have e1 : X3.heap[lb]? = some (.cells #[.map (some br), .map (some bv), .map (some bn), (.slice pa E1.length pc)] 81 (0, 0)) := (hX3.block lb (Nat.lt_of_lt_of_le hlt hO1d.size)).trans ((hO1d.block lb hlt (by simpa using hap.1)).trans hL.ls.head)
            have e2 := (hg.block lb (Array.getElem?_eq_some_iff.1 e1).1 (fun e => (hap.2 lb e.symm).1 rfl)).trans e1
            exact ⟨by simp [World.cell?, e2], by simp [World.frozen?, e2]⟩
          have HE : Hid (∀ (sA sV vp' : Value) (ws : List Nat) (X2 X3 X4 : World), RowB fi 83 X2 sA ids → RowB fu 194 X2 sV ws → Bits (fun x => (ixI V x).getD 0) ((V.length + 63) / 64) t.vs ws → Below X1.drew.heap.size X1.drew X2 → Below X2.heap.size X2 X3 → X4.ownsRow w0.heap.size 129 5 vp' (E1.length + 1) (flatP ρ E1 ++ [fi E1.length, .int .i64 (rk : Int), sA, .int .i64 (tp : Int), sV]) → X3.grownBy X4 ((.slice pa E1.length pc) : Value).ownBlock → (vp'.ownBlock = ((.slice pa E1.length pc) : Value).ownBlock ∨ vp'.ownBlock = some X3.heap.size) → ∃ k' E' vp'', Ending.returned (.int .i16 (E1.length : Int)) = .returned (fi k') ∧ Ls w0.heap.size G Sy V ρ lb br bv bn E' vp'' (X4.setCell ⟨lb, 3, none⟩ vp') ∧ E <+: E' ∧ E'.length ≤ E.length + t.size.toNat ∧ (∃ h : k' < E'.length, E'[k'].t = t) ∧ Only (lbs lb bn vp) W (X4.setCell ⟨lb, 3, none⟩ vp') ∧ (∀ g, vp''.ownBlock = some g → vp.ownBlock = some g ∨ W.heap.size ≤ g)) := by
            intro sA sV vp' ws X2 X3 X4 h1 h2 h3 h4 h5 h6 h7 h8
            obtain ⟨r1, r2, r3⟩ := hL.ls.snoc H hO1d hM1d h4 h1 h2 h3 h5 (by rw [grk, htp]; exact h6) h7 h8 hix gsh gsy gvs hno
            refine ⟨E1.length, _, vp', rfl, r1, hL.pre.trans (List.prefix_append _ _), by simp; omega, ⟨by simp, by simp⟩, hL.on.trans r2 (lbs_own hL.own), fun g hg => ?_⟩
            rcases r3 g hg with h | h
            · exact hL.own g h
            · exact .inr (Nat.le_trans hL.on.size h)
          have ecs : ndV rk t.v ids = .agg cs.toArray := by rw [← hcs]
          rw [ecs, hil] at hbuilt'
          clear ecs hbuilt hL hix hln hno hcs hap offn offt hnd hwlt hnlt hnd1 htb1 hM1d hsz hvv hrk0 l0 l1 l2 l3 lf gL gL0 gA gw gsh gsy gvs gln gb0 gs0 grk gih HO htp
          obtain ⟨i0, hi0, hz0, hz1, hz2⟩ := info_parts Tryz.info103f
          refine wp_region_held_drew (S := fun X => Only (lbs lb bn (.slice pa E1.length pc)) X1.drew X) (by kernel_rfl) (Only.refl _ _) (fun hHeld => ?_)
          generalize X1.drew = Xd at *
          refine take_mk 0 (.pointer (some ⟨lb, 0, none⟩)) rfl (by kernel_rfl) (by kernel_rfl) (by kernel_rfl) (fun _ _ _ h => h) (Or.inl ⟨by rfl, fun X hX => by go_simp⟩) (by assumption) ?_
          simp only [Act.put, List.setIfInBounds_toArray, List.set_cons_zero, List.set_cons_succ]
          refine take_mk 1 (.pointer (some ⟨lb, 0, none⟩)) rfl (by kernel_rfl) (by kernel_rfl) (by kernel_rfl) (fun _ _ _ h => h) (Or.inl ⟨by rfl, fun X hX => by go_simp⟩) (by assumption) ?_
          simp only [Act.put, List.setIfInBounds_toArray, List.set_cons_zero, List.set_cons_succ]
          refine take_mk 2 (.pointer (some ⟨lb, 0, none⟩)) rfl (by kernel_rfl) (by kernel_rfl) (by kernel_rfl) (fun _ _ _ h => h) (Or.inl ⟨by rfl, fun X hX => by go_simp⟩) (by assumption) ?_
          simp only [Act.put, List.setIfInBounds_toArray, List.set_cons_zero, List.set_cons_succ]
          refine take_mk 3 (.pointer (some ⟨lb, 3, none⟩)) rfl (by kernel_rfl) (by kernel_rfl) (by kernel_rfl) (fun _ _ _ h => h) (Or.inl ⟨by rfl, fun X hX => by go_simp⟩) (by assumption) ?_
          simp only [Act.put, List.setIfInBounds_toArray, List.set_cons_zero, List.set_cons_succ]
          refine take_mk 5 (.pointer (some ⟨lb, 0, none⟩)) rfl (by kernel_rfl) (by kernel_rfl) (by kernel_rfl) (fun _ _ _ h => h) (Or.inl ⟨by rfl, fun X hX => by go_simp⟩) (by assumption) ?_
          simp only [Act.put, List.setIfInBounds_toArray, List.set_cons_zero, List.set_cons_succ]
          refine take_mk 6 (fi E1.length) rfl (by kernel_rfl) (by kernel_rfl) (by kernel_rfl) (fun _ _ _ h => h) (Or.inl ⟨by rfl, fun X hX => by go_simp⟩) (by assumption) ?_
          simp only [Act.put, List.setIfInBounds_toArray, List.set_cons_zero, List.set_cons_succ]
          refine take_mk 7 (.agg cs.toArray) rfl (by kernel_rfl) (by kernel_rfl) (by kernel_rfl) (fun _ _ _ h => h) (yieldsIf_load_node rfl _ rfl nb rfl cs hcl qnd) (by assumption) ?_
          simp only [Act.put, List.setIfInBounds_toArray, List.set_cons_zero, List.set_cons_succ]
          refine take_mk 8 (.pointer (some ⟨W.heap.size, 2, none⟩)) rfl (by kernel_rfl) (by kernel_rfl) (by kernel_rfl) (fun _ _ _ h => h) (Or.inl ⟨by rfl, fun X hX => by go_simp⟩) (by assumption) ?_
          simp only [Act.put, List.setIfInBounds_toArray, List.set_cons_zero, List.set_cons_succ]
          refine take_mk 9 (.slice a t.args.length c) rfl (by kernel_rfl) (by kernel_rfl) (by kernel_rfl) (fun _ _ _ h => h) (Or.inl ⟨by rfl, fun X hX => by have := q2 X hX; go_simp⟩) (by assumption) ?_
          simp only [Act.put, List.setIfInBounds_toArray, List.set_cons_zero, List.set_cons_succ]
          refine take_mk 10 (.int .i64 (t.args.length : Int)) rfl (by kernel_rfl) (by kernel_rfl) (by kernel_rfl) (fun _ _ _ h => h) (Or.inl ⟨by rfl, fun X hX => by go_simp⟩) (by assumption) ?_
          simp only [Act.put, List.setIfInBounds_toArray, List.set_cons_zero, List.set_cons_succ]
          clear q2 qnd
          refine wpAnyH_ready (rs := [4, 11]) (by kernel_rfl) (by simp) (AllReadyH.cons (o := ⟨_, _, _, _, _, _⟩) rfl (fun K hK => ?_) (AllReadyH.cons (o := ⟨_, _, _, _, _, _⟩) rfl (fun K hK => ?_) AllReadyH.nil))
          · rw [if_pos (by rfl)]
            go_simp
            refine hK.out _ _ (Only.refl _ _) (fun _ => ?_)
            clear hK K
            try simp only [Act.put, List.setIfInBounds_toArray, List.set_cons_zero, List.set_cons_succ]
            refine wpAnyH_ready (rs := [11]) (by kernel_rfl) (by simp) (AllReadyH.cons (o := ⟨_, _, _, _, _, _⟩) rfl (fun K hK => ?_) AllReadyH.nil)
            rw [if_pos (by rfl)]
            go_simp
            refine hbuilt'.mono ?_
            rintro e X2 ⟨sb, scc, sv, sn, rfl, HR, hb2⟩
            have o2 : X2.cell? ⟨lb, 3, none⟩ = some (.slice pa E1.length pc) := kc hb2 (World.block_lt_of_cell? Xd _ o3) o3
            refine hK.out _ _ (Only.of_below hb2) (fun _ => ?_)
            clear hK K
            try simp only [Act.put, List.setIfInBounds_toArray, List.set_cons_zero, List.set_cons_succ]
            refine wpAnyH_ready (rs := [12]) (by kernel_rfl) (by simp) (AllReadyH.cons (o := ⟨_, _, _, _, _, _⟩) rfl (fun K hK => ?_) AllReadyH.nil)
            rw [if_pos (by rfl)]
            go_simp
            obtain ⟨X3, e3⟩ : ∃ X, X2.alloc (.cells #[fi E1.length, .int .i64 (rk : Int), .slice (some ⟨sb, 0, none⟩) t.args.length scc, .int .i64 (tp : Int), setV sv sn] 129) = X := ⟨_, rfl⟩
            have hb3 : Below X2.heap.size X2 X3 := by rw [← e3]; exact below_box _ _
            have hx3 : X3.heap[X2.heap.size]? = some (.cells #[fi E1.length, .int .i64 (rk : Int), .slice (some ⟨sb, 0, none⟩) t.args.length scc, .int .i64 (tp : Int), setV sv sn] 129 (0, 0)) := by rw [← e3]; exact (MapKept.heap_alloc _ _).1
            have hb03 : Below Xd.heap.size Xd X3 := hb2.trans (hb3.mono hb2.size)
            have o33 : X3.cell? ⟨lb, 3, none⟩ = some (.slice pa E1.length pc) := kc hb03 (World.block_lt_of_cell? Xd _ o3) o3
            refine hK.out _ _ (by rw [e3]; exact Only.of_below hb03) (fun _ => ?_)
            rw [e3]
            clear hK K
            try simp only [Act.put, List.setIfInBounds_toArray, List.set_cons_zero, List.set_cons_succ]
            refine wpAnyH_ready (rs := [13]) (by kernel_rfl) (by simp) (AllReadyH.cons (o := ⟨_, _, _, _, _, _⟩) rfl (fun K hK => ?_) AllReadyH.nil)
            refine step_append_own X3 rfl (.tmp 64) (.tmp 72) 79 rfl w0.heap.size 129 i0 _ 5 72 Tryz.underlying79 hi0 hz0 hz1 hz2 rfl (by decide) (.slice pa E1.length pc) E1.length (flatP ρ E1) rfl (hrow1 X3 hb03) ⟨X2.heap.size, 0, none⟩ 1 1 [fi E1.length, .int .i64 (rk : Int), .slice (some ⟨sb, 0, none⟩) t.args.length scc, .int .i64 (tp : Int), setV sv sn] rfl rfl (fun j y hj => by rw [Addr.add_mid, Nat.zero_add, cell_of_row _ _ _ _ 129 (0, 0) hx3]; simpa using hj) (by intro y hy; simp only [List.mem_cons, List.not_mem_nil, or_false] at hy; rcases hy with rfl | rfl | rfl | rfl | rfl <;> rfl) (by unfold maxLen; omega) (by omega) (hbase X3 hb03) ?_
            intro v' X4 hrow4 hg4 hblk4
            obtain ⟨a4, c4, rfl⟩ := row_slice hrow4
            obtain ⟨y3, yf⟩ := hset 0 0 0 0 X2 X3 X4 hb03 hg4
            have hO4 : Only (lbs lb bn (.slice pa E1.length pc)) Xd X4 := (Only.of_below (B := lbs lb bn (.slice pa E1.length pc)) hb03).trans (Only.of_grown (B := lbs lb bn (.slice pa E1.length pc)) hg4 (fun r e => by simp [lbs, e])) (fun r hr => .inl hr)
            obtain ⟨ws, hra, hrv, hbt⟩ := HR.out
            have HF := HE.out _ _ _ ws X2 X3 X4 hra hrv hbt hb2 hb3 hrow4 hg4 hblk4
            refine hK.out _ _ hO4 (fun _ => ?_)
            clear hK K hrow4 hg4 hblk4 hra hrv hbt HE HR hbuilt' hset hbase hrow1
            try simp only [Act.put, List.setIfInBounds_toArray, List.set_cons_zero, List.set_cons_succ]
            refine take_mk 14 (.pointer (some ⟨lb, 0, none⟩)) rfl (by kernel_rfl) (by kernel_rfl) (by kernel_rfl) (fun _ _ _ h => h) (Or.inl ⟨by rfl, fun X hX => by go_simp⟩) (by assumption) ?_
            try simp only [Act.put, List.setIfInBounds_toArray, List.set_cons_zero, List.set_cons_succ]
            refine take_mk 15 (.pointer (some ⟨lb, 3, none⟩)) rfl (by kernel_rfl) (by kernel_rfl) (by kernel_rfl) (fun _ _ _ h => h) (Or.inl ⟨by rfl, fun X hX => by go_simp⟩) (by assumption) ?_
            try simp only [Act.put, List.setIfInBounds_toArray, List.set_cons_zero, List.set_cons_succ]
            refine wpAnyH_ready (rs := [16]) (by kernel_rfl) (by simp) (AllReadyH.cons (o := ⟨_, _, _, _, _, _⟩) rfl (fun K hK => ?_) AllReadyH.nil)
            rw [if_pos (by rfl)]
            go_simp
            refine hK.out _ _ (hO4.trans (only_setCell X4 lb 3 _) (fun r hr => .inl (List.mem_cons.2 (.inl (List.mem_singleton.1 hr))))) (fun _ => ?_)
            clear hK K
            refine wpAnyH_done (by kernel_rfl) ?_ _
            try simp only [Act.put]
            have HG : Hid (_ : Prop) := HF
            clear HF y3 yf hO4 o3
            go_wp2
            go_ret
            exact HG.out
          · rw [if_pos (by rfl)]
            go_simp
            refine hbuilt'.mono ?_
            rintro e X2 ⟨sb, scc, sv, sn, rfl, HR, hb2⟩
            have o2 : X2.cell? ⟨lb, 3, none⟩ = some (.slice pa E1.length pc) := kc hb2 (World.block_lt_of_cell? Xd _ o3) o3
            refine hK.out _ _ (Only.of_below hb2) (fun _ => ?_)
            clear hK K
            try simp only [Act.put, List.setIfInBounds_toArray, List.set_cons_zero, List.set_cons_succ]
            refine wpAnyH_ready (rs := [4, 12]) (by kernel_rfl) (by simp) (AllReadyH.cons (o := ⟨_, _, _, _, _, _⟩) rfl (fun K hK => ?_) (AllReadyH.cons (o := ⟨_, _, _, _, _, _⟩) rfl (fun K hK => ?_) AllReadyH.nil))
            · rw [if_pos (by rfl)]
              go_simp
              refine hK.out _ _ (Only.of_below hb2) (fun _ => ?_)
              clear hK K
              try simp only [Act.put, List.setIfInBounds_toArray, List.set_cons_zero, List.set_cons_succ]
              refine wpAnyH_ready (rs := [12]) (by kernel_rfl) (by simp) (AllReadyH.cons (o := ⟨_, _, _, _, _, _⟩) rfl (fun K hK => ?_) AllReadyH.nil)
              rw [if_pos (by rfl)]
              go_simp
              obtain ⟨X3, e3⟩ : ∃ X, X2.alloc (.cells #[fi E1.length, .int .i64 (rk : Int), .slice (some ⟨sb, 0, none⟩) t.args.length scc, .int .i64 (tp : Int), setV sv sn] 129) = X := ⟨_, rfl⟩
              have hb3 : Below X2.heap.size X2 X3 := by rw [← e3]; exact below_box _ _
              have hx3 : X3.heap[X2.heap.size]? = some (.cells #[fi E1.length, .int .i64 (rk : Int), .slice (some ⟨sb, 0, none⟩) t.args.length scc, .int .i64 (tp : Int), setV sv sn] 129 (0, 0)) := by rw [← e3]; exact (MapKept.heap_alloc _ _).1
              have hb03 : Below Xd.heap.size Xd X3 := hb2.trans (hb3.mono hb2.size)
              have o33 : X3.cell? ⟨lb, 3, none⟩ = some (.slice pa E1.length pc) := kc hb03 (World.block_lt_of_cell? Xd _ o3) o3
              refine hK.out _ _ (by rw [e3]; exact Only.of_below hb03) (fun _ => ?_)
              rw [e3]
              clear hK K
              try simp only [Act.put, List.setIfInBounds_toArray, List.set_cons_zero, List.set_cons_succ]
              refine wpAnyH_ready (rs := [13]) (by kernel_rfl) (by simp) (AllReadyH.cons (o := ⟨_, _, _, _, _, _⟩) rfl (fun K hK => ?_) AllReadyH.nil)
              refine step_append_own X3 rfl (.tmp 64) (.tmp 72) 79 rfl w0.heap.size 129 i0 _ 5 72 Tryz.underlying79 hi0 hz0 hz1 hz2 rfl (by decide) (.slice pa E1.length pc) E1.length (flatP ρ E1) rfl (hrow1 X3 hb03) ⟨X2.heap.size, 0, none⟩ 1 1 [fi E1.length, .int .i64 (rk : Int), .slice (some ⟨sb, 0, none⟩) t.args.length scc, .int .i64 (tp : Int), setV sv sn] rfl rfl (fun j y hj => by rw [Addr.add_mid, Nat.zero_add, cell_of_row _ _ _ _ 129 (0, 0) hx3]; simpa using hj) (by intro y hy; simp only [List.mem_cons, List.not_mem_nil, or_false] at hy; rcases hy with rfl | rfl | rfl | rfl | rfl <;> rfl) (by unfold maxLen; omega) (by omega) (hbase X3 hb03) ?_
              intro v' X4 hrow4 hg4 hblk4
              obtain ⟨a4, c4, rfl⟩ := row_slice hrow4
              obtain ⟨y3, yf⟩ := hset 0 0 0 0 X2 X3 X4 hb03 hg4
              have hO4 : Only (lbs lb bn (.slice pa E1.length pc)) Xd X4 := (Only.of_below (B := lbs lb bn (.slice pa E1.length pc)) hb03).trans (Only.of_grown (B := lbs lb bn (.slice pa E1.length pc)) hg4 (fun r e => by simp [lbs, e])) (fun r hr => .inl hr)
              obtain ⟨ws, hra, hrv, hbt⟩ := HR.out
              have HF := HE.out _ _ _ ws X2 X3 X4 hra hrv hbt hb2 hb3 hrow4 hg4 hblk4
              refine hK.out _ _ hO4 (fun _ => ?_)
              clear hK K hrow4 hg4 hblk4 hra hrv hbt HE HR hbuilt' hset hbase hrow1
              try simp only [Act.put, List.setIfInBounds_toArray, List.set_cons_zero, List.set_cons_succ]
              refine take_mk 14 (.pointer (some ⟨lb, 0, none⟩)) rfl (by kernel_rfl) (by kernel_rfl) (by kernel_rfl) (fun _ _ _ h => h) (Or.inl ⟨by rfl, fun X hX => by go_simp⟩) (by assumption) ?_
              try simp only [Act.put, List.setIfInBounds_toArray, List.set_cons_zero, List.set_cons_succ]
              refine take_mk 15 (.pointer (some ⟨lb, 3, none⟩)) rfl (by kernel_rfl) (by kernel_rfl) (by kernel_rfl) (fun _ _ _ h => h) (Or.inl ⟨by rfl, fun X hX => by go_simp⟩) (by assumption) ?_
              try simp only [Act.put, List.setIfInBounds_toArray, List.set_cons_zero, List.set_cons_succ]
              refine wpAnyH_ready (rs := [16]) (by kernel_rfl) (by simp) (AllReadyH.cons (o := ⟨_, _, _, _, _, _⟩) rfl (fun K hK => ?_) AllReadyH.nil)
              rw [if_pos (by rfl)]
              go_simp
              refine hK.out _ _ (hO4.trans (only_setCell X4 lb 3 _) (fun r hr => .inl (List.mem_cons.2 (.inl (List.mem_singleton.1 hr))))) (fun _ => ?_)
              clear hK K
              refine wpAnyH_done (by kernel_rfl) ?_ _
              try simp only [Act.put]
              have HG : Hid (_ : Prop) := HF
              clear HF y3 yf hO4 o3
              go_wp2
              go_ret
              exact HG.out
            · rw [if_pos (by rfl)]
              go_simp
              obtain ⟨X3, e3⟩ : ∃ X, X2.alloc (.cells #[fi E1.length, .int .i64 (rk : Int), .slice (some ⟨sb, 0, none⟩) t.args.length scc, .int .i64 (tp : Int), setV sv sn] 129) = X := ⟨_, rfl⟩
              have hb3 : Below X2.heap.size X2 X3 := by rw [← e3]; exact below_box _ _
              have hx3 : X3.heap[X2.heap.size]? = some (.cells #[fi E1.length, .int .i64 (rk : Int), .slice (some ⟨sb, 0, none⟩) t.args.length scc, .int .i64 (tp : Int), setV sv sn] 129 (0, 0)) := by rw [← e3]; exact (MapKept.heap_alloc _ _).1
              have hb03 : Below Xd.heap.size Xd X3 := hb2.trans (hb3.mono hb2.size)
              have o33 : X3.cell? ⟨lb, 3, none⟩ = some (.slice pa E1.length pc) := kc hb03 (World.block_lt_of_cell? Xd _ o3) o3
              refine hK.out _ _ (by rw [e3]; exact Only.of_below hb03) (fun _ => ?_)
              rw [e3]
              clear hK K
              try simp only [Act.put, List.setIfInBounds_toArray, List.set_cons_zero, List.set_cons_succ]
              refine wpAnyH_ready (rs := [4]) (by kernel_rfl) (by simp) (AllReadyH.cons (o := ⟨_, _, _, _, _, _⟩) rfl (fun K hK => ?_) AllReadyH.nil)
              rw [if_pos (by rfl)]
              go_simp
              refine hK.out _ _ (Only.of_below hb03) (fun _ => ?_)
              clear hK K
              try simp only [Act.put, List.setIfInBounds_toArray, List.set_cons_zero, List.set_cons_succ]
              refine wpAnyH_ready (rs := [13]) (by kernel_rfl) (by simp) (AllReadyH.cons (o := ⟨_, _, _, _, _, _⟩) rfl (fun K hK => ?_) AllReadyH.nil)
              refine step_append_own X3 rfl (.tmp 64) (.tmp 72) 79 rfl w0.heap.size 129 i0 _ 5 72 Tryz.underlying79 hi0 hz0 hz1 hz2 rfl (by decide) (.slice pa E1.length pc) E1.length (flatP ρ E1) rfl (hrow1 X3 hb03) ⟨X2.heap.size, 0, none⟩ 1 1 [fi E1.length, .int .i64 (rk : Int), .slice (some ⟨sb, 0, none⟩) t.args.length scc, .int .i64 (tp : Int), setV sv sn] rfl rfl (fun j y hj => by rw [Addr.add_mid, Nat.zero_add, cell_of_row _ _ _ _ 129 (0, 0) hx3]; simpa using hj) (by intro y hy; simp only [List.mem_cons, List.not_mem_nil, or_false] at hy; rcases hy with rfl | rfl | rfl | rfl | rfl <;> rfl) (by unfold maxLen; omega) (by omega) (hbase X3 hb03) ?_
              intro v' X4 hrow4 hg4 hblk4
              obtain ⟨a4, c4, rfl⟩ := row_slice hrow4
              obtain ⟨y3, yf⟩ := hset 0 0 0 0 X2 X3 X4 hb03 hg4
              have hO4 : Only (lbs lb bn (.slice pa E1.length pc)) Xd X4 := (Only.of_below (B := lbs lb bn (.slice pa E1.length pc)) hb03).trans (Only.of_grown (B := lbs lb bn (.slice pa E1.length pc)) hg4 (fun r e => by simp [lbs, e])) (fun r hr => .inl hr)
              obtain ⟨ws, hra, hrv, hbt⟩ := HR.out
              have HF := HE.out _ _ _ ws X2 X3 X4 hra hrv hbt hb2 hb3 hrow4 hg4 hblk4
              refine hK.out _ _ hO4 (fun _ => ?_)
              clear hK K hrow4 hg4 hblk4 hra hrv hbt HE HR hbuilt' hset hbase hrow1
              try simp only [Act.put, List.setIfInBounds_toArray, List.set_cons_zero, List.set_cons_succ]
              refine take_mk 14 (.pointer (some ⟨lb, 0, none⟩)) rfl (by kernel_rfl) (by kernel_rfl) (by kernel_rfl) (fun _ _ _ h => h) (Or.inl ⟨by rfl, fun X hX => by go_simp⟩) (by assumption) ?_
              try simp only [Act.put, List.setIfInBounds_toArray, List.set_cons_zero, List.set_cons_succ]
              refine take_mk 15 (.pointer (some ⟨lb, 3, none⟩)) rfl (by kernel_rfl) (by kernel_rfl) (by kernel_rfl) (fun _ _ _ h => h) (Or.inl ⟨by rfl, fun X hX => by go_simp⟩) (by assumption) ?_
              try simp only [Act.put, List.setIfInBounds_toArray, List.set_cons_zero, List.set_cons_succ]
              refine wpAnyH_ready (rs := [16]) (by kernel_rfl) (by simp) (AllReadyH.cons (o := ⟨_, _, _, _, _, _⟩) rfl (fun K hK => ?_) AllReadyH.nil)
              rw [if_pos (by rfl)]
              go_simp
              refine hK.out _ _ (hO4.trans (only_setCell X4 lb 3 _) (fun r hr => .inl (List.mem_cons.2 (.inl (List.mem_singleton.1 hr))))) (fun _ => ?_)
              clear hK K
              refine wpAnyH_done (by kernel_rfl) ?_ _
              try simp only [Act.put]
              have HG : Hid (_ : Prop) := HF
              clear HF y3 yf hO4 o3
              go_wp2
              go_ret
              exact HG.out
end Go.Proofs.YtglphfhlpobgcaaGreat

namespace Go.Proofs.YtglphfhlpobgcaaGreat
open Go.RowKit Go.Maps
theorem enter_any (w0 : World) (G : Sg) (Sy : List Sym) (V : List Int) (ρ : Sym → Nat) (H : Hs G Sy V ρ) (lb br bv bn : Nat) (t : T) : Ent w0 G Sy V ρ lb br bv bn t := by
  induction t using T.ind with
  | _ t ih => exact enter_one w0 G Sy V ρ H lb br bv bn t ih
section
variable {n0 : Nat} {G : Sg} {Sy : List Sym} {V : List Int} {ρ : Sym → Nat} {lb br bv bn : Nat} {E : List Pe} {vp : Value} {W : World}
theorem Ls.lst (h : Ls n0 G Sy V ρ lb br bv bn E vp W) (H : Hs G Sy V ρ) (hl : E.length ≤ 8000) : Lst G ρ (fun x => (ixI V x).getD 0) ((V.length + 63) / 64) (E.map (·.t)) := by
  have hmm : (E.map Pe.p).map (·.1) = E.map (·.t) := by simp
  have hin : ∀ t ∈ E.map (·.t), ∃ p ∈ E.map Pe.p, p.1 = t := fun t ht => by rw [← hmm] at ht; exact List.mem_map.1 ht
  refine ⟨⟨Sy, H.rk, fun t ht s hs => ?_⟩, fun t ht => ?_, ?_, fun t ht u hu x hx y hy e => ?_, fun t ht x hx => ?_, by simpa using hl⟩
  · obtain ⟨p, hp, rfl⟩ := hin t ht
    exact h.lp.sy p hp s hs
  · obtain ⟨p, hp, rfl⟩ := hin t ht
    exact h.lp.sh p hp
  · rw [← hmm]; exact h.lp.nd
  · obtain ⟨p, hp, rfl⟩ := hin t ht
    obtain ⟨q, hq, rfl⟩ := hin u hu
    obtain ⟨i, ei, hi, hix⟩ := ixI_some (h.lp.vs p hp x hx)
    obtain ⟨j, ej, hj, hjx⟩ := ixI_some (h.lp.vs q hq y hy)
    simp only [ei, ej, Option.getD_some] at e
    subst e
    rw [← hix, ← hjx]
  · obtain ⟨p, hp, rfl⟩ := hin t ht
    obtain ⟨i, ei, hi, hix⟩ := ixI_some (h.lp.vs p hp x hx)
    simp only [ei, Option.getD_some]
    omega
theorem Ls.pts (h : Ls n0 G Sy V ρ lb br bv bn E vp W) : Pts ρ (fun x => (ixI V x).getD 0) ((V.length + 63) / 64) (E.map (·.t)) W vp := by
  have hmm : (E.map Pe.p).map (·.1) = E.map (·.t) := by simp
  obtain ⟨a, c, rfl, hc, hm⟩ : ∃ a c, vp = .slice a E.length c ∧ E.length ≤ c ∧ c ≤ 9223372036854775807 := by
    obtain ⟨hl, ⟨e, h0⟩ | ⟨g, cap, cur, e, hb, hg, hc, hm, hsz, ht⟩⟩ := h.row
    · exact ⟨none, 0, by rw [e, h0], by omega, by omega⟩
    · exact ⟨_, cap, e, hc, hm⟩
  refine ⟨a, c, by simp, by simpa using hc, hm, fun i hi => ?_⟩
  have hi' : i < E.length := by simpa using hi
  obtain ⟨b, hob, hlt, ⟨c', hc', _, _⟩, hcell⟩ := h.cell hi'
  have hpa : a = some ⟨b, 0, none⟩ := (Value.slice.inj hc').1
  have hk := h.ks i hi'
  have hix : Idx ((E.map Pe.p).map (·.1)) E[i].ids E[i].t.args := h.lp.ix E[i].p (List.mem_map.2 ⟨E[i], List.getElem_mem hi', rfl⟩)
  rw [hmm] at hix
  refine ⟨b, 0, E[i].sA, E[i].ids, E[i].sV, E[i].ws, hpa, hlt, ?_, ?_, ?_, ?_, ?_, (h.ra _ (List.getElem_mem hi')).row, (h.rv _ (List.getElem_mem hi')).row, ?_, ?_⟩
  · have := hcell 0 (by decide)
    rw [Nat.add_zero] at this
    rw [this, Pe.cells, hk]; rfl
  · rw [hcell 1 (by decide)]; simp [Pe.cells]
  · rw [hcell 2 (by decide)]; simp [Pe.cells]
  · rw [hcell 3 (by decide)]; simp [Pe.cells]
  · rw [hcell 4 (by decide)]; simp [Pe.cells]
  · simpa [Idx] using hix
  · simpa using h.bt _ (List.getElem_mem hi')
end
theorem ls_nil {n0 : Nat} {G : Sg} {ts : List T} {Sy : List Sym} {V : List Int} {ρ : Sym → Nat} {br bv bn lb : Nat} {W : World} (hH : Heads G ts W br bv Sy V ρ) (hm : MapIs W 123 bn (fun _ => none) 0) (hl : W.heap[lb]? = some (.cells #[.map (some br), .map (some bv), .map (some bn), .slice none 0 0] 81 (0, 0))) (h1 : n0 ≤ lb) (h2 : n0 ≤ bn) (h3 : br ≠ bn) (h4 : bv ≠ bn) :
    Ls n0 G Sy V ρ lb br bv bn [] (.slice none 0 0) W := by
  have e : nmap ρ ([] : List (T × List Nat)) = fun _ => none := by
    funext key
    unfold nmap
    rw [dif_neg]
    rintro ⟨i, hi, _⟩
    exact absurd hi (by simp)
  refine ⟨hl, hH.mr, hH.mv, ?_, ⟨rfl, .inl ⟨rfl, rfl⟩⟩, fun i h => absurd h (by simp), fun e h => (by cases h), fun e h => (by cases h), fun e h => (by cases h), ⟨fun p h => (by cases h), by simp, fun p h => (by cases h), fun p h => (by cases h), fun p h => (by cases h)⟩, ⟨h1, h2⟩, h3, h4⟩
  rw [List.map_nil, e]
  exact hm
theorem args_two (W : World) (x y : T) (sx sy : Value) (hx : ArgsAt W sx x.args) (hy : ArgsAt W sy y.args) :
    ArgsAt (W.alloc (.cells #[.int .i64 x.v, .string x.fn, sx, .int .i64 y.v, .string y.fn, sy] 30)) (.slice (some ⟨W.heap.size, 0, none⟩) 2 2) [x, y] := by
  have hb := below_box W (.cells #[.int .i64 x.v, .string x.fn, sx, .int .i64 y.v, .string y.fn, sy] 30)
  have hc := (MapKept.heap_alloc W (.cells #[.int .i64 x.v, .string x.fn, sx, .int .i64 y.v, .string y.fn, sy] 30)).1
  generalize W.alloc (.cells #[.int .i64 x.v, .string x.fn, sx, .int .i64 y.v, .string y.fn, sy] 30) = W' at *
  refine ArgsAt.mk (some ⟨W.heap.size, 0, none⟩) 2 [x, y] (fun i => if i = 0 then sx else sy) (by simp) (by omega) (fun _ => ⟨W.heap.size, 0, (Array.getElem?_eq_some_iff.1 hc).1, rfl, fun i hi => ?_⟩) (fun i hi => ?_)
  · have : i = 0 ∨ i = 1 := by simp at hi; omega
    rcases this with rfl | rfl <;> simp [World.cell?, hc]
  · have : i = 0 ∨ i = 1 := by simp at hi; omega
    rcases this with rfl | rfl
    · exact ArgsAt.keep hb (Nat.le_refl _) hx
    · exact ArgsAt.keep hb (Nat.le_refl _) hy
end Go.Proofs.YtglphfhlpobgcaaGreat
