/-
  The walk of Feed.
-/
import Derived.Test.YtdbfmjfbiokfdaaDoorG
import Derived.Shelf.RegionOpen
namespace Go.Proofs.YtdbfmjfbiokfdaaDoor
open Go.RowKit Go.Shelf

attribute [local go_sem] Oper.semAt_some

set_option maxRecDepth 100000 in
set_option maxHeartbeats 2000000 in
theorem feed_in (n : Nat) (hn : 4 ≤ n) (Bb b o : Nat) (kv0 cv : Value) (ks0 : List Int) (lg0 : Bool) (xs : List Int) (w : World)
    (hk0 : Keeps w Bb kv0 ks0 lg0) (hP : PieceOf b o xs cv xs) (hC : ChunkAt w b o xs) (hb : 0 < xs.length → b < w.heap.size ∧ b ≠ Bb ∧ some b ≠ kv0.ownBlock) (hbig : (xs.length + 2) * 24 ≤ 140737488355328) :
    CallsIn Fence.wide n Tryd.prog 19 #[.pointer (some ⟨Bb, 0, none⟩), cv] w fun e W' => ∃ v kv, e = .returned v ∧ Keeps W' Bb kv (psteps (ks0, lg0, []) (pcs xs)).1 (psteps (ks0, lg0, []) (pcs xs)).2.1 ∧ Touch Bb kv0 kv w W' ∧
      W'.ownsRow w.heap.size 44 2 v (psteps (ks0, lg0, []) (pcs xs)).2.2.length (flat (psteps (ks0, lg0, []) (pcs xs)).2.2) := by
  have hP0 := hP
  obtain ⟨p0, c0, rfl, _⟩ := hP
  have h1 : 1 ≤ n := by omega
  refine callsIn_of_wp_marks Tryd.func19 rfl trivial ?_ rfl
  simp only [Tryd.ntmps19, List.size_toArray, List.length_cons, List.length_nil, Nat.reduceAdd, Nat.reduceSub, Array.replicate_succ, Array.replicate_zero, List.push_toArray, List.append_toArray, List.nil_append, List.cons_append]
  gi_wp2_with (refine ⟨trivial, ?_⟩; gi_at_call 25; refine (callsIn_wide.2 (pieces_any _ _ ⟨_, _, _, rfl⟩)).mono ?_; rintro e w' ⟨rfl, rfl⟩)
  have hlt0 := hk0.1.lt
  have bP := Boxed.new w 32 (.pointer (some ⟨Bb, 0, none⟩))
  have bL := Boxed.new (w.alloc (.cells #[.pointer (some ⟨Bb, 0, none⟩)] 32)) 38 (.slice none 0 0)
  rw [World.size_alloc] at bL
  have bC := Boxed.new ((w.alloc (.cells #[.pointer (some ⟨Bb, 0, none⟩)] 32)).alloc (.cells #[.slice none 0 0] 38)) 22 (.slice p0 xs.length c0)
  rw [World.size_alloc, World.size_alloc] at bC
  have g1 := World.grownBy_alloc w (.cells #[.pointer (some ⟨Bb, 0, none⟩)] 32) none
  have g2 := World.grownBy_alloc (w.alloc (.cells #[.pointer (some ⟨Bb, 0, none⟩)] 32)) (.cells #[.slice none 0 0] 38) none
  have g3 := World.grownBy_alloc ((w.alloc (.cells #[.pointer (some ⟨Bb, 0, none⟩)] 32)).alloc (.cells #[.slice none 0 0] 38)) (.cells #[.slice p0 xs.length c0] 22) none
  have ow : kv0.ownBlock = none ∨ kv0.ownBlock ≠ none := by cases kv0.ownBlock <;> simp
  have hkW := ((hk0.kept g1 (by simp) ow).kept g2 (by simp) ow).kept g3 (by simp) ow
  have htW := (((Touch.refl Bb kv0 w).grown g1 (by simp)).grown g2 (by simp)).grown g3 (by simp)
  obtain ⟨W0, hW0⟩ : ∃ W0, ((w.alloc (.cells #[.pointer (some ⟨Bb, 0, none⟩)] 32)).alloc (.cells #[.slice none 0 0] 38)).alloc (.cells #[.slice p0 xs.length c0] 22) = W0 := ⟨_, rfl⟩
  have hsz : W0.heap.size = w.heap.size + 3 := by rw [← hW0]; simp
  have bP' := (bP.alloc (.cells #[.slice none 0 0] 38)).alloc (.cells #[.slice p0 xs.length c0] 22)
  have bL' := bL.alloc (.cells #[.slice p0 xs.length c0] 22)
  rw [hW0] at hkW htW bP' bL' bC ⊢
  clear g1 g2 g3 bP bL
  obtain ⟨i0, hi, hz0, hz1, hz2⟩ := info_parts Tryd.info44
  refine wpIn_rangeFunc_ownG rfl h1 (gf := 36) (lb := #[.pointer (some ⟨w.heap.size + 1 + 1, 0, none⟩)]) rfl trivial (enters_of Tryd.func36 (by kernel_rfl) rfl)
    (pieces_stops (n - 1) (by omega) (w.heap.size + 1 + 1) b o _ xs W0 bC.cell hP0 (htW.chunk hC hb) (by omega) (fun h => by have := (hb h).1; omega))
    (fun h k i hi => (k i hi).trans (h i hi)) (fun W l ob ob' hl hg hc _ i hi => World.cell?_of_block (w := W) (a := ⟨b, o + i, none⟩) (World.putObj_heap_other (show b ≠ l by have := (hb (by omega)).1; omega))) (Below.refl _ _) (fun _ => rfl)
    (fun pre W => FI w Bb kv0 (psteps (ks0, lg0, []) (pre.map (·.1.2))) W)
    (fun _ _ _ => False)
    (FI.own w Bb kv0 hlt0 _ (by omega) (fun pre : List (Pc b o xs) => psteps (ks0, lg0, []) (pre.map (·.1.2))))
    (fun _ _ _ _ _ hs _ _ => hs)
    ⟨kv0, .slice none 0 0, hkW, htW, bP', bL', World.ownsRow_nil _ _ _ _⟩
    (fun x => { tmps := #[.pointer (some ⟨Bb, 0, none⟩), .slice p0 xs.length c0, .pointer (some ⟨w.heap.size, 0, none⟩), undef, .slice none 0 0, .pointer (some ⟨w.heap.size + 1, 0, none⟩), x.1.1, .bool x.1.2.2, .pointer (some ⟨Bb, 0, none⟩), .bool false, .slice p0 xs.length c0, .func (.func 36) #[] #[.pointer (some ⟨w.heap.size + 1 + 1, 0, none⟩)], x.1.1, .bool x.1.2.2, undef, undef, undef, undef, undef, undef, undef, undef, undef, undef], defers := [] }) ?assign ?body ?done ?stop
  case assign =>
    intro l x W K hK
    gi_wp2
    exact hK
  case body =>
    rintro l pre ⟨⟨pv, ps, en⟩, hp⟩ W ⟨kv, v, hk, ht, hbP, hbL, hrow⟩ hlen
    have hpl := psteps_lines (pre.map (·.1.2)) (ks0, lg0, [])
    have hp2 : PieceOf b o xs pv ps := hp
    have hB := hp2.bts (ht.chunk hC hb)
    obtain ⟨pa, pc, hpe, _⟩ := hp2
    subst hpe
    obtain ⟨s, hs⟩ : ∃ s, psteps (ks0, lg0, []) (pre.map (·.1.2)) = s := ⟨_, rfl⟩
    have hfin : ∀ W', FI w Bb kv0 (pstep s (ps, en)) W' → FI w Bb kv0 (psteps (ks0, lg0, []) ((pre ++ [(⟨(.slice pa ps.length pc, ps, en), hp⟩ : Pc b o xs)]).map (·.1.2))) W' := by
      intro W' h
      rw [List.map_append, List.map_cons, List.map_nil, psteps_snoc, hs]
      exact h
    rw [hs] at hk hrow hpl
    simp only [List.length_nil, List.length_map, Nat.zero_add] at hpl
    have HF : Hid (∀ W', FI w Bb kv0 (pstep s (ps, en)) W' → FI w Bb kv0 (psteps (ks0, lg0, []) ((pre ++ [(⟨(.slice pa ps.length pc, ps, en), hp⟩ : Pc b o xs)]).map (·.1.2))) W') := hfin
    clear hfin hs
    have hc0 := hbP.cell
    have hd : 1 ≤ n - 1 - 1 := by omega
    clear hP0 hC hkW htW bP' bL' bC hW0 hk0
    cases en with
    | false =>
      gi_wp2_with (refine ⟨trivial, ?_⟩; gi_at_call 26; refine (CallsIn.inRound l (callsIn_wide.2 (keep_any Bb kv s.1 s.2.1 _ ps _ hk hB))).mono ?_; rintro e w1 ⟨rfl, kv1, hk1, ht1⟩)
      exact ⟨(ht1.keepsOthers hk).from _, ht.kpc (ht.trans ht1) hb, HF.out _ ⟨kv1, v, by simpa [pstep] using hk1, ht.trans ht1, ht1.boxed hk hbP (by decide), ht1.boxed hk hbL (by decide), by simpa [pstep] using ht1.row44 hk hrow⟩⟩
    | true =>
      gi_wp2_with (refine ⟨trivial, ?_⟩; gi_at_call 26; refine (CallsIn.inRound l (callsIn_wide.2 (keep_any Bb kv s.1 s.2.1 _ ps _ hk hB))).mono ?_; rintro e w1 ⟨rfl, kv1, hk1, ht1⟩)
      have bP1 := ht1.boxed hk hbP (by decide)
      have bL1 := ht1.boxed hk hbL (by decide)
      have r1 := ht1.row44 hk hrow
      have t1 := ht.trans ht1
      have cP1 := bP1.cell
      have cL1 := bL1.cell
      obtain ⟨va, vc, hv, _⟩ := row_form hrow
      subst hv
      have hk1d : Keeps w1.drew Bb kv1 (stepK s.1 s.2.1 ps).1 (stepK s.1 s.2.1 ps).2 := hk1.drew
      refine wpIn_region_any (by kernel_rfl) ?_
      try (change wpAnyIn _ _ _ _ _ _ _ _ _ (World.drew _))
      refine wpAnyIn_ready (rs := [0, 1]) (by kernel_rfl) (by simp) ?_
      refine AllReadyIn.cons rfl (fun K hK => ?_) ?_
      · go_simp
        refine hK _ _ ?_
        clear hK K
        refine wpAnyIn_ready (rs := [1]) (by kernel_rfl) (by simp) ?_
        refine AllReadyIn.cons rfl (fun K hK => ?_) AllReadyIn.nil
        go_simp
        refine hK _ _ ?_
        clear hK K
        refine wpAnyIn_ready (rs := [2]) (by kernel_rfl) (by simp) ?_
        refine AllReadyIn.cons rfl (fun K hK => ?_) AllReadyIn.nil
        go_simp
        refine ⟨trivial, (CallsIn.inRound l (callsIn_wide.2 (take_any Bb kv1 _ _ _ hk1d))).mono ?_⟩
        rintro e w2 ⟨rfl, hk2, ht2⟩
        have bP2 := ht2.boxed hk1d bP1 (by decide)
        have bL2 := ht2.boxed hk1d bL1 (by decide)
        have r2 := ht2.row44 hk1d r1
        have t2 := t1.drew.trans ht2
        have cL2 := bL2.cell
        refine hK _ _ ?_
        clear hK K
        refine wpAnyIn_ready (rs := [3]) (by kernel_rfl) (by simp) ?_
        refine AllReadyIn.cons rfl (fun K hK => ?_) AllReadyIn.nil
        go_simp
        refine hK _ _ ?_
        clear hK K
        refine wpAnyIn_ready (rs := [4]) (by kernel_rfl) (by simp) ?_
        refine AllReadyIn.cons rfl (fun K hK => ?_) AllReadyIn.nil
        refine stepIn_append _ rfl _ _ 38 rfl w.heap.size 44 i0 _ 2 24 Tryd.underlying38 hi hz0 hz1 hz2 rfl (by decide) _ _ _ rfl (r2.alloc _) ⟨w2.heap.size, 0, none⟩ 1 1 _ rfl rfl (cell_two_new' _ _ _ _) (by simp [Value.oneCell']) (by unfold maxLen; omega) (by omega) (by have := t2.size; simp; omega) ?_
        intro v' w3 hown' hgrow
        obtain ⟨g', cap', rfl⟩ := ownsRow_succ hown'
        obtain ⟨cL3, fL3, ko3, fi3⟩ := FI.line (l := (lineT (stepK s.1 s.2.1 ps).1 (stepK s.1 s.2.1 ps).2, lineE (stepK s.1 s.2.1 ps).1 (stepK s.1 s.2.1 ps).2)) hlt0 hk2 t2 bP2 bL2 r2 hown' hgrow
        refine hK _ _ ?_
        clear hK K
        refine wpAnyIn_ready (rs := [5]) (by kernel_rfl) (by simp) ?_
        refine AllReadyIn.cons rfl (fun K hK => ?_) AllReadyIn.nil
        go_simp
        refine hK _ _ ?_
        clear hK K
        refine wpAnyIn_done (by kernel_rfl) ?_ _
        exact ⟨((ht1.drew.keepsOthers hk).trans ((ht2.keepsOthers hk1d).trans ko3)).from _, ht.kpc fi3.touch.choose_spec hb, HF.out _ (by simpa [pstep] using fi3)⟩
      · refine AllReadyIn.cons rfl (fun K hK => ?_) AllReadyIn.nil
        go_simp
        refine hK _ _ ?_
        clear hK K
        refine wpAnyIn_ready (rs := [0, 2]) (by kernel_rfl) (by simp) ?_
        refine AllReadyIn.cons rfl (fun K hK => ?_) ?_
        · go_simp
          refine hK _ _ ?_
          clear hK K
          refine wpAnyIn_ready (rs := [2]) (by kernel_rfl) (by simp) ?_
          refine AllReadyIn.cons rfl (fun K hK => ?_) AllReadyIn.nil
          go_simp
          refine ⟨trivial, (CallsIn.inRound l (callsIn_wide.2 (take_any Bb kv1 _ _ _ hk1d))).mono ?_⟩
          rintro e w2 ⟨rfl, hk2, ht2⟩
          have bP2 := ht2.boxed hk1d bP1 (by decide)
          have bL2 := ht2.boxed hk1d bL1 (by decide)
          have r2 := ht2.row44 hk1d r1
          have t2 := t1.drew.trans ht2
          have cL2 := bL2.cell
          refine hK _ _ ?_
          clear hK K
          refine wpAnyIn_ready (rs := [3]) (by kernel_rfl) (by simp) ?_
          refine AllReadyIn.cons rfl (fun K hK => ?_) AllReadyIn.nil
          go_simp
          refine hK _ _ ?_
          clear hK K
          refine wpAnyIn_ready (rs := [4]) (by kernel_rfl) (by simp) ?_
          refine AllReadyIn.cons rfl (fun K hK => ?_) AllReadyIn.nil
          refine stepIn_append _ rfl _ _ 38 rfl w.heap.size 44 i0 _ 2 24 Tryd.underlying38 hi hz0 hz1 hz2 rfl (by decide) _ _ _ rfl (r2.alloc _) ⟨w2.heap.size, 0, none⟩ 1 1 _ rfl rfl (cell_two_new' _ _ _ _) (by simp [Value.oneCell']) (by unfold maxLen; omega) (by omega) (by have := t2.size; simp; omega) ?_
          intro v' w3 hown' hgrow
          obtain ⟨g', cap', rfl⟩ := ownsRow_succ hown'
          obtain ⟨cL3, fL3, ko3, fi3⟩ := FI.line (l := (lineT (stepK s.1 s.2.1 ps).1 (stepK s.1 s.2.1 ps).2, lineE (stepK s.1 s.2.1 ps).1 (stepK s.1 s.2.1 ps).2)) hlt0 hk2 t2 bP2 bL2 r2 hown' hgrow
          refine hK _ _ ?_
          clear hK K
          refine wpAnyIn_ready (rs := [5]) (by kernel_rfl) (by simp) ?_
          refine AllReadyIn.cons rfl (fun K hK => ?_) AllReadyIn.nil
          go_simp
          refine hK _ _ ?_
          clear hK K
          refine wpAnyIn_done (by kernel_rfl) ?_ _
          exact ⟨((ht1.drew.keepsOthers hk).trans ((ht2.keepsOthers hk1d).trans ko3)).from _, ht.kpc fi3.touch.choose_spec hb, HF.out _ (by simpa [pstep] using fi3)⟩
        · refine AllReadyIn.cons rfl (fun K hK => ?_) AllReadyIn.nil
          go_simp
          refine ⟨trivial, (CallsIn.inRound l (callsIn_wide.2 (take_any Bb kv1 _ _ _ hk1d))).mono ?_⟩
          rintro e w2 ⟨rfl, hk2, ht2⟩
          have bP2 := ht2.boxed hk1d bP1 (by decide)
          have bL2 := ht2.boxed hk1d bL1 (by decide)
          have r2 := ht2.row44 hk1d r1
          have t2 := t1.drew.trans ht2
          have cL2 := bL2.cell
          refine hK _ _ ?_
          clear hK K
          refine wpAnyIn_ready (rs := [0, 3]) (by kernel_rfl) (by simp) ?_
          refine AllReadyIn.cons rfl (fun K hK => ?_) ?_
          · go_simp
            refine hK _ _ ?_
            clear hK K
            refine wpAnyIn_ready (rs := [3]) (by kernel_rfl) (by simp) ?_
            refine AllReadyIn.cons rfl (fun K hK => ?_) AllReadyIn.nil
            go_simp
            refine hK _ _ ?_
            clear hK K
            refine wpAnyIn_ready (rs := [4]) (by kernel_rfl) (by simp) ?_
            refine AllReadyIn.cons rfl (fun K hK => ?_) AllReadyIn.nil
            refine stepIn_append _ rfl _ _ 38 rfl w.heap.size 44 i0 _ 2 24 Tryd.underlying38 hi hz0 hz1 hz2 rfl (by decide) _ _ _ rfl (r2.alloc _) ⟨w2.heap.size, 0, none⟩ 1 1 _ rfl rfl (cell_two_new' _ _ _ _) (by simp [Value.oneCell']) (by unfold maxLen; omega) (by omega) (by have := t2.size; simp; omega) ?_
            intro v' w3 hown' hgrow
            obtain ⟨g', cap', rfl⟩ := ownsRow_succ hown'
            obtain ⟨cL3, fL3, ko3, fi3⟩ := FI.line (l := (lineT (stepK s.1 s.2.1 ps).1 (stepK s.1 s.2.1 ps).2, lineE (stepK s.1 s.2.1 ps).1 (stepK s.1 s.2.1 ps).2)) hlt0 hk2 t2 bP2 bL2 r2 hown' hgrow
            refine hK _ _ ?_
            clear hK K
            refine wpAnyIn_ready (rs := [5]) (by kernel_rfl) (by simp) ?_
            refine AllReadyIn.cons rfl (fun K hK => ?_) AllReadyIn.nil
            go_simp
            refine hK _ _ ?_
            clear hK K
            refine wpAnyIn_done (by kernel_rfl) ?_ _
            exact ⟨((ht1.drew.keepsOthers hk).trans ((ht2.keepsOthers hk1d).trans ko3)).from _, ht.kpc fi3.touch.choose_spec hb, HF.out _ (by simpa [pstep] using fi3)⟩
          · refine AllReadyIn.cons rfl (fun K hK => ?_) AllReadyIn.nil
            go_simp
            refine hK _ _ ?_
            clear hK K
            have cL2' := (bL2.alloc (.cells #[.string (lineT (stepK s.1 s.2.1 ps).1 (stepK s.1 s.2.1 ps).2), .int .i64 (lineE (stepK s.1 s.2.1 ps).1 (stepK s.1 s.2.1 ps).2)] 44)).cell
            refine wpAnyIn_ready (rs := [0]) (by kernel_rfl) (by simp) ?_
            refine AllReadyIn.cons rfl (fun K hK => ?_) AllReadyIn.nil
            go_simp
            refine hK _ _ ?_
            clear hK K
            refine wpAnyIn_ready (rs := [4]) (by kernel_rfl) (by simp) ?_
            refine AllReadyIn.cons rfl (fun K hK => ?_) AllReadyIn.nil
            refine stepIn_append _ rfl _ _ 38 rfl w.heap.size 44 i0 _ 2 24 Tryd.underlying38 hi hz0 hz1 hz2 rfl (by decide) _ _ _ rfl (r2.alloc _) ⟨w2.heap.size, 0, none⟩ 1 1 _ rfl rfl (cell_two_new' _ _ _ _) (by simp [Value.oneCell']) (by unfold maxLen; omega) (by omega) (by have := t2.size; simp; omega) ?_
            intro v' w3 hown' hgrow
            obtain ⟨g', cap', rfl⟩ := ownsRow_succ hown'
            obtain ⟨cL3, fL3, ko3, fi3⟩ := FI.line (l := (lineT (stepK s.1 s.2.1 ps).1 (stepK s.1 s.2.1 ps).2, lineE (stepK s.1 s.2.1 ps).1 (stepK s.1 s.2.1 ps).2)) hlt0 hk2 t2 bP2 bL2 r2 hown' hgrow
            refine hK _ _ ?_
            clear hK K
            refine wpAnyIn_ready (rs := [5]) (by kernel_rfl) (by simp) ?_
            refine AllReadyIn.cons rfl (fun K hK => ?_) AllReadyIn.nil
            go_simp
            refine hK _ _ ?_
            clear hK K
            refine wpAnyIn_done (by kernel_rfl) ?_ _
            exact ⟨((ht1.drew.keepsOthers hk).trans ((ht2.keepsOthers hk1d).trans ko3)).from _, ht.kpc fi3.touch.choose_spec hb, HF.out _ (by simpa [pstep] using fi3)⟩
  case done =>
    rintro D ys W hD hS ⟨kv, v, hk, ht, hbP, hbL, hrow⟩ hK
    rw [hS] at hk hrow
    have hc := hbL.cell
    gi_wp2
    refine ⟨by simp, .inl ⟨_, _, rfl, run_takeDeferred hK, ?_⟩⟩
    have notc : ∀ (g : Nat) (cur : Array Value) (e : TypeId), W.heap[g]? = some (.cells cur e (0, 0)) → g ≠ D := by
      rintro g cur e hc' rfl
      rw [hc'] at hK; cases hK
    have gD := grownBy_putObj' W D (.deferred none)
    refine ⟨_, results_tmp rfl _ _ _, v, kv, rfl, hk.kept gD (by simpa using notc _ _ _ hk.1) ?_, ht.grown gD (fun r e => by cases e; omega), ownsRow_putObj hrow _ hK rfl⟩
    cases hq : kv.ownBlock with
    | none => exact .inl rfl
    | some g => obtain ⟨cur, hc'⟩ := row_tag hk.2.1 hq; exact .inr (by simpa using notc _ _ _ hc')
  case stop =>
    rintro D c pre W _ _ h _
    exact h.elim

theorem Bts.chunk' {xs : List Int} {v : Value} {w : World} (h : Bts w v xs) : ∃ b o, ChunkAt w b o xs ∧ PieceOf b o xs v xs ∧ (0 < xs.length → b < w.heap.size ∧ v.ownBlock = some b) := by
  obtain ⟨p, c, rfl, h1, h2, h3, h4⟩ := h
  by_cases hp : 0 < xs.length
  · obtain ⟨b, o, rfl, hc⟩ := h4 hp
    refine ⟨b, o, hc, ⟨_, c, rfl, h1, h2, h3, Nat.le_refl _, fun _ => ⟨0, rfl, by omega, fun i _ => by simp⟩⟩, fun _ => ⟨?_, rfl⟩⟩
    exact World.block_lt_of_cell? w _ (hc 0 hp)
  · exact ⟨0, 0, fun i hi => by omega, ⟨p, c, rfl, h1, h2, h3, Nat.le_refl _, fun h => absurd h hp⟩, fun h => absurd h hp⟩

/-- What the buffer and the lines are behind a chunk. -/
def feedS (ks : List Int) (lg : Bool) (xs : List Int) : St := psteps (ks, lg, []) (pcs xs)

/-- Feed, at whatever chunk that lies apart from the buffer. -/
theorem feed_any (Bb : Nat) (kv0 cv : Value) (ks0 : List Int) (lg0 : Bool) (xs : List Int) (w : World)
    (hk0 : Keeps w Bb kv0 ks0 lg0) (hB : Bts w cv xs) (hfar : 0 < xs.length → ∀ b, cv.ownBlock = some b → b ≠ Bb ∧ some b ≠ kv0.ownBlock) (hbig : (xs.length + 2) * 24 ≤ 140737488355328) :
    Calls Tryd.prog 19 #[.pointer (some ⟨Bb, 0, none⟩), cv] w fun e W' => ∃ v kv, e = .returned v ∧ Keeps W' Bb kv (feedS ks0 lg0 xs).1 (feedS ks0 lg0 xs).2.1 ∧ Touch Bb kv0 kv w W' ∧
      W'.ownsRow w.heap.size 44 2 v (feedS ks0 lg0 xs).2.2.length (flat (feedS ks0 lg0 xs).2.2) := by
  obtain ⟨b, o, hc, hp, hb⟩ := hB.chunk'
  exact callsIn_wide.1 (feed_in 4 (Nat.le_refl _) Bb b o kv0 cv ks0 lg0 xs w hk0 hp hc (fun h => ⟨(hb h).1, hfar h b (hb h).2⟩) hbig)

set_option maxHeartbeats 400000 in
theorem feed_nil (cv : Value) (w : World) (h : ∃ p n c, cv = .slice p n c) :
    Calls Tryd.prog 19 #[.pointer none, cv] w fun e w' => e = .returned (.slice none 0 0) ∧ w' = w.alloc (.cells #[.pointer none] 32) := by
  obtain ⟨p, n, c, rfl⟩ := h
  go_enter Tryd.func19, Tryd.ntmps19
  go_wp2
  go_ret
  exact ⟨rfl, rfl⟩

end Go.Proofs.YtdbfmjfbiokfdaaDoor
