/-
  headsOf, walked.
-/
import Derived.Test.YtpahgmidofacaaaWU
namespace Go.Proofs.Ytpahgmidofacaaa
open Go.RowKit Go.Maps

theorem box2_facts {W : World} {b : Nat} {x y : Value} {ty : TypeId} (h : W.heap[b]? = some (.cells #[x, y] ty (0, 0))) : (W.cell? ⟨b, 0, none⟩ = some x ∧ W.cell? ⟨b, 1, none⟩ = some y) ∧ W.frozen? ⟨b, 0, none⟩ = false ∧ W.frozen? ⟨b, 1, none⟩ = false := by
  refine ⟨⟨?_, ?_⟩, ?_, ?_⟩ <;> simp [World.cell?, World.frozen?, h]

theorem rowS_cells {W : World} {base g cap : Nat} {ss : List Sym} (h : W.ownsRow base 87 2 (.slice (some ⟨g, 0, none⟩) ss.length cap) ss.length (flatS ss)) (i : Nat) (hi : i < ss.length) : W.cell? ⟨g, i * 2, none⟩ = some (.string ss[i].1) ∧ W.cell? ⟨g, i * 2 + 1, none⟩ = some (.int .i64 (ss[i].2 : Int)) := by
  have hc := h.cells rfl
  obtain ⟨f0, f1⟩ := flatS_get ss i hi
  have h0 := hc _ _ f0
  have h1 := hc _ _ f1
  have ea : ∀ j, (⟨g, 0, none⟩ : Addr).add j = ⟨g, j, none⟩ := fun j => by unfold Addr.add; split <;> simp_all
  rw [ea] at h0 h1
  exact ⟨h0, h1⟩

set_option maxRecDepth 100000 in
set_option maxHeartbeats 4000000 in
theorem heads_any (G : Sg) (ts : List T) (vn vw sl : Value) (w : World) (hg : SgAt w G vn vw) (ha : ArgsAt w sl ts) (hsh : ∀ t ∈ ts, t.shape = true) (hsz : szs ts ≤ 100000) :
    Calls Try.prog 23 #[gval vn vw, sl] w fun e W' => ∃ br bv, e = .returned (.agg #[.map (some br), .map (some bv)]) ∧ (∃ Sy V ρ, Heads G ts W' br bv Sy V ρ) ∧ (w.heap.size ≤ br ∧ w.heap.size ≤ bv) ∧ Below w.heap.size w W' := by
  obtain ⟨an, cn, rfl, _, _⟩ := hg.ns.slice
  obtain ⟨aw, cw, rfl, _, _⟩ := hg.ws.slice
  obtain ⟨a, cc, rfl, hcc, hcm⟩ := ha.slice
  have hm1 := fun w => run_makeMap0 54 87 3 Try.underlying54 w
  have hm2 := fun w => run_makeMap0 55 3 3 Try.underlying55 w
  obtain ⟨N, hN⟩ : ∃ N, w.heap.size = N := ⟨_, rfl⟩
  obtain ⟨W1, e1⟩ : ∃ W, w.alloc (.cells #[.slice an G.ns.length cn, .slice aw G.ws.length cw] 32) = W := ⟨_, rfl⟩
  obtain ⟨W2, e2⟩ : ∃ W, W1.alloc (.cells #[.map none, .map none] 57) = W := ⟨_, rfl⟩
  obtain ⟨W3, e3⟩ : ∃ W, W2.alloc (.map #[] 0) = W := ⟨_, rfl⟩
  obtain ⟨W4, e4⟩ : ∃ W, W3.alloc (.map #[] 0) = W := ⟨_, rfl⟩
  obtain ⟨W5, e5⟩ : ∃ W, W4.alloc (.cells #[.map (some (N + 2)), .map (some (N + 3))] 57) = W := ⟨_, rfl⟩
  have s1 : W1.heap.size = N + 1 := by rw [← e1]; simp [hN]
  have s2 : W2.heap.size = N + 2 := by rw [← e2]; simp [s1]
  have s3 : W3.heap.size = N + 3 := by rw [← e3]; simp [s2]
  have s4 : W4.heap.size = N + 4 := by rw [← e4]; simp [s3]
  have s5 : W5.heap.size = N + 5 := by rw [← e5]; simp [s4]
  have b1 : Below w.heap.size w W1 := by rw [← e1]; exact below_box w _
  have b2 : Below W1.heap.size W1 W2 := by rw [← e2]; exact below_box W1 _
  have b3 : Below W2.heap.size W2 W3 := by rw [← e3]; exact below_box W2 _
  have b4 : Below W3.heap.size W3 W4 := by rw [← e4]; exact below_box W3 _
  have b5 : Below W4.heap.size W4 W5 := by rw [← e5]; exact below_box W4 _
  have b35 := b4.trans (b5.mono (by omega))
  have b25 := b3.trans (b35.mono (by omega))
  have b15 := b2.trans (b25.mono (by omega))
  have b05 := b1.trans (b15.mono (by omega))
  have hR2 : W2.heap[N + 1]? = some (.cells #[.map none, .map none] 57 (0, 0)) := by
    have := (MapKept.heap_alloc W1 (.cells #[.map none, .map none] 57)).1
    rw [e2, s1] at this
    exact this
  have hR5 : W5.heap[N + 1]? = some (.cells #[.map none, .map none] 57 (0, 0)) := (b25.block _ (by omega)).trans hR2
  have m3 : MapIs W3 87 (N + 2) (fun _ => none) 0 := by
    have := MapIs.made W2 87
    rw [e3, s2] at this
    exact this
  have m4 : MapIs W4 3 (N + 3) (fun _ => none) 0 := by
    have := MapIs.made W3 3
    rw [e4, s3] at this
    exact this
  have hH5 : Hd W5 (N + 2) (N + 3) [] [] := by
    have q1 : smap [] (fun _ => 0) = fun _ => none := by
      funext k
      unfold smap
      rw [dif_neg]
      rintro ⟨s, h, _⟩
      cases h
    have q2 : vmap [] = fun _ => none := by
      funext k
      cases k with
      | int kd x => cases kd <;> rfl
      | _ => rfl
    refine ⟨?_, ?_, by omega, List.nodup_nil, List.nodup_nil, fun _ h => (by cases h), fun _ h => (by cases h), fun _ h => (by cases h)⟩
    · rw [q1]; exact m3.same (b35.block _ (by omega))
    · rw [q2]; exact m4.same (b5.block _ (by omega))
  obtain ⟨c0, c1⟩ := box2_cells w (.slice an G.ns.length cn) (.slice aw G.ws.length cw) 32
  rw [e1, hN] at c0 c1
  have c05 := kc b15 (by omega) c0
  have c15 := kc b15 (by omega) c1
  obtain ⟨d05, d15⟩ := box2_cells W4 (.map (some (N + 2))) (.map (some (N + 3))) 57
  rw [e5, s4] at d05 d15
  have hP5 : ArgsP (Off (N + 2) (N + 3)) W5 (.slice a ts.length cc) ts := ha.belowP.keep b05.size (fun k hk hlt => ⟨⟨by omega, by omega⟩, b05.block k (by omega)⟩)
  have hcall := meet_any (N + 2) (N + 3) ts _ [] [] W5 hH5 hP5 hsh (by simpa using hsz)
  have HG : Hid (SgAt w G (.slice an G.ns.length cn) (.slice aw G.ws.length cw) ∧ Below w.heap.size w W5 ∧ W5.heap.size = N + 5 ∧ w.heap.size = N ∧ szs ts ≤ 100000 ∧ W5.heap[N + 1]? = some (.cells #[.map none, .map none] 57 (0, 0))) := ⟨hg, b05, s5, hN, hsz, hR5⟩
  clear hg ha hsh hsz b1 b2 b3 b4 b5 b35 b25 b15 b05 hR2 hR5 m3 m4 hH5 c0 c1 hP5 s5
  go_enter Try.func23, Try.ntmps23
  go_wp2_with fail
  refine hcall.mono ?_
  rintro e W6 ⟨⟨v6, rfl⟩, Sy, V, hM6⟩
  have hO6 := hM6.on
  have sz6 := hO6.size
  have g6 := HG.out
  have f0 : W6.cell? ⟨N, 0, none⟩ = some (.slice an G.ns.length cn) := cell_only hO6 (by omega) (by simp) c05
  have f1 : W6.cell? ⟨N, 1, none⟩ = some (.slice aw G.ws.length cw) := cell_only hO6 (by omega) (by simp) c15
  have k0 : W6.cell? ⟨N + 4, 0, none⟩ = some (.map (some (N + 2))) := cell_only hO6 (by omega) (by simp) d05
  have k1 : W6.cell? ⟨N + 4, 1, none⟩ = some (.map (some (N + 3))) := cell_only hO6 (by omega) (by simp) d15
  have hr6 : W6.heap[N + 1]? = some (.cells #[.map none, .map none] 57 (0, 0)) := (hO6.block _ (by omega) (by simp)).trans g6.2.2.2.2.2
  have hb6 : Below w.heap.size w W6 := g6.2.1.trans (hO6.below g6.2.1.size (by simp; omega))
  have ln6 := hM6.ln
  -- the box of the map that is ranged over
  obtain ⟨W7, e7⟩ : ∃ W, W6.alloc (.cells #[.map (some (N + 2))] 54) = W := ⟨_, rfl⟩
  have hb7 : Below W6.heap.size W6 W7 := by rw [← e7]; exact below_box W6 _
  have s7 : W7.heap.size = W6.heap.size + 1 := by rw [← e7]; simp
  have hB7 : W7.cell? ⟨W6.heap.size, 0, none⟩ = some (.map (some (N + 2))) := by rw [← e7]; exact box1_cell W6 _ 54
  have hH7 := hM6.hd.below hb7
  have hsf := sortedFunc_any G (.slice an G.ns.length cn) (.slice aw G.ws.length cw) N W6.heap.size (N + 2) Sy (fun _ => 0) W7 (g6.1.keep (hb6.trans (hb7.mono hb6.size)) (Nat.le_refl _)) (kc hb7 (by omega) f0) (kc hb7 (by omega) f1) (by omega) hM6.hd.ns hM6.hd.fs hH7.mr (by omega) hB7 (by simp at ln6; omega)
  have j0 := kc hb7 (by omega) k0
  have j1 := kc hb7 (by omega) k1
  have HM : Hid (Mt W5 (N + 2) (N + 3) [] [] ts W6 Sy V ∧ Below w.heap.size w W7 ∧ W7.heap.size = W6.heap.size + 1 ∧ N + 5 ≤ W6.heap.size ∧ Hd W7 (N + 2) (N + 3) Sy V ∧ W7.heap[N + 1]? = some (.cells #[.map none, .map none] 57 (0, 0))) := ⟨hM6, hb6.trans (hb7.mono hb6.size), s7, by omega, hH7, (hb7.block _ (by omega)).trans hr6⟩
  clear hM6 hO6 sz6 g6 hb6 hb7 s7 hH7 ln6 hr6 c05 c15 d05 d15
  go_wp2_with (first
    | (go_at_call 41; refine hsf.mono ?_; rintro e W8 ⟨v, ss, rfl, hp, hso, hrow, hb8⟩; obtain ⟨va, vc, rfl⟩ := row_slice hrow; have HR : Hid (ss.Perm Sy ∧ SortedS G ss ∧ W8.ownsRow W7.heap.size 87 2 (.slice va ss.length vc) ss.length (flatS ss) ∧ Below W7.heap.size W7 W8) := ⟨hp, hso, hrow, hb8⟩; have i0 := kc hb8 (by have := HM.out; omega) j0; have i1 := kc hb8 (by have := HM.out; omega) j1; clear hp hso hrow hb8 j0 j1)
    | (go_at_call 42; refine (keys_any _ _).mono ?_; rintro e w' ⟨rfl, rfl⟩))
  clear hsf hB7 f0 f1 k0 k1
  have hcapS : ss.length ≤ 1000000 := by
    have h1 := HR.out.1.length_eq
    have h2 := HM.out.1.ln
    have h3 := HG.out
    simp at h2
    omega
  go_loopw [22] (fun vi wr => ∃ k : Nat, vi = .int .i64 k ∧ k ≤ ss.length ∧ Hid (MapIs wr 87 (N + 2) (smap Sy (rkL (ss.take k))) Sy.length ∧ Only [N + 2] W8 wr)) (fun vi _ => ss.length - (intOf vi).toNat)
  case atStart =>
    refine ⟨0, rfl, Nat.zero_le _, ?_, Only.refl _ _⟩
    have h5 := HM.out.2.2.2.2.1.mr.same (HR.out.2.2.2.block (N + 2) (by have := HM.out; omega))
    have e : (rkL (ss.take 0)) = fun _ => 0 := by funext r; simp [rkL, ixS]
    rw [e]
    exact h5
  case round =>
    obtain ⟨k, rfl, hk, HI⟩ := hrel
    have hszr := HI.out.2.size
    have hb8s := HR.out.2.2.2.size
    have l0 : wr.cell? ⟨N + 4, 0, none⟩ = some (.map (some (N + 2))) := cell_only HI.out.2 (by have := HM.out; omega) (by simp) i0
    have l1 : wr.cell? ⟨N + 4, 1, none⟩ = some (.map (some (N + 3))) := cell_only HI.out.2 (by have := HM.out; omega) (by simp) i1
    by_cases hlt : k < ss.length
    · obtain ⟨g, rfl, hgb, hg8⟩ : ∃ g, va = some ⟨g, 0, none⟩ ∧ W7.heap.size ≤ g ∧ g < W8.heap.size := by
        rcases HR.out.2.2.1.2 with ⟨e, h0⟩ | ⟨g, cap, cur, e, hb, hg, _⟩
        · omega
        · simp only [Value.slice.injEq] at e
          exact ⟨g, e.1, hb, (Array.getElem?_eq_some_iff.1 hg).1⟩
      obtain ⟨r0, r1⟩ := rowS_cells HR.out.2.2.1 k hlt
      have r0' := cell_only HI.out.2 hg8 (by simp; have := HM.out; omega) r0
      have r1' := cell_only HI.out.2 hg8 (by simp; have := HM.out; omega) r1
      have hmem : ss[k] ∈ Sy := HR.out.1.mem_iff.1 (List.getElem_mem hlt)
      have hnd : ss.Nodup := HR.out.1.nodup_iff.2 HM.out.2.2.2.2.1.ns
      have hnew : ss[k] ∉ ss.take k := fun h => by
        obtain ⟨j, hj, e⟩ := List.getElem_of_mem h
        rw [List.getElem_take] at e
        have hj' : j < k := by simp at hj; omega
        exact List.pairwise_iff_getElem.1 hnd j k (by omega) hlt hj' e
      have ht : ss.take (k + 1) = ss.take k ++ [ss[k]] := List.take_succ_eq_append_getElem hlt
      have hlk : (ss.take k).length = k := by simp; omega
      obtain ⟨kl, hkey⟩ := sym_key (HM.out.2.2.2.2.1.fs _ hmem).1 (by have := (HM.out.2.2.2.2.1.fs _ hmem).2; omega)
      obtain ⟨X, eX⟩ : ∃ X, wr.alloc (.cells #[.string ss[k].1, .int .i64 (ss[k].2 : Int)] 87) = X := ⟨_, rfl⟩
      have hbX : Below wr.heap.size wr X := by rw [← eX]; exact below_box wr _
      obtain ⟨x0, x1⟩ := box2_cells wr (.string ss[k].1) (.int .i64 (ss[k].2 : Int)) 87
      rw [eX] at x0 x1
      have hSl : Sy.length ≤ 1000000 := by have := HR.out.1.length_eq; omega
      obtain ⟨Y, hrun, hMY, hgY⟩ := (HI.out.1.same (hbX.block _ HI.out.1.lt)).put keyed87 Try.underlying54 (by unfold maxLen; omega) hkey (.int .i64 ((k + 1 : Nat) : Int))
      have HN : Hid (MapIs Y 87 (N + 2) (smap Sy (rkL (ss.take (k + 1)))) Sy.length ∧ Only [N + 2] W8 Y) := by
        refine ⟨?_, (HI.out.2.trans (Only.of_below (B := [N + 2]) hbX) (by simp)).trans (Only.of_grown (B := [N + 2]) hgY (fun r e => by cases e; simp)) (by simp)⟩
        rw [smap_in hmem, smap_set hmem] at hMY
        rw [ht, rkL_snoc hnew, hlk]
        exact hMY
      have l0X := kc hbX (by have := HM.out; omega) l0
      clear r0 r1 hmem hnd hnew ht hlk hkey hbX hMY hgY
      generalize ss[k] = s at *
      go_wp2_with (first | (refine wpList_mapUpdate_run rfl 54 _ _ _ rfl (.map (some (N + 2))) (symv s) (.int .i64 ((k + 1 : Nat) : Int)) rfl rfl (by go_num) hrun ?_))
      go_roundw
      case rel => exact ⟨k + 1, by go_num, by omega, HN⟩
      case measure => simp [intOf]; omega
    · have hR8 : W8.heap[N + 1]? = some (.cells #[.map none, .map none] 57 (0, 0)) := (HR.out.2.2.2.block _ (by have := HM.out; omega)).trans HM.out.2.2.2.2.2
      have hRr : wr.heap[N + 1]? = some (.cells #[.map none, .map none] 57 (0, 0)) := (HI.out.2.block _ (by have := HM.out; omega) (by simp)).trans hR8
      obtain ⟨⟨y0, y1⟩, z0, z1⟩ := box2_facts hRr
      have hall : ss.take k = ss := List.take_of_length_le (by omega)
      obtain ⟨Z, eZ⟩ : ∃ Z, (wr.setCell ⟨N + 1, 0, none⟩ (.map (some (N + 2)))).setCell ⟨N + 1, 1, none⟩ (.map (some (N + 3))) = Z := ⟨_, rfl⟩
      have hZ : Z.heap[N + 1]? = some (.cells #[.map (some (N + 2)), .map (some (N + 3))] 57 (0, 0)) := by
        have q1 := heap_setCell_same wr (N + 1) 0 _ 57 (.map (some (N + 2))) hRr
        have q2 := heap_setCell_same (wr.setCell ⟨N + 1, 0, none⟩ (.map (some (N + 2)))) (N + 1) 1 _ 57 (.map (some (N + 3))) q1
        rw [eZ] at q2
        simpa using q2
      obtain ⟨⟨v0, v1⟩, _, _⟩ := box2_facts hZ
      have hO : ∀ j, j ≠ N + 1 → Z.heap[j]? = wr.heap[j]? := fun j hj => by
        rw [← eZ, Below.heap_setCell _ ⟨N + 1, 1, none⟩ _ j hj, Below.heap_setCell _ ⟨N + 1, 0, none⟩ _ j hj]
      have HF : Hid ((∃ Sy V ρ, Heads G ts Z (N + 2) (N + 3) Sy V ρ) ∧ (w.heap.size ≤ N + 2 ∧ w.heap.size ≤ N + 3) ∧ Below w.heap.size w Z) := by
        have hd := HM.out.2.2.2.2.1
        have hmt := HM.out.1
        have hln := hmt.ln
        have hgo := HG.out
        refine ⟨⟨Sy, V, rkL ss, ?_, ?_, hd.ne, hd.ns, hd.nv, hd.fs, hd.fv, ranks_of HR.out.1 hd.ns HR.out.2.1, fun s => ?_, hmt.st, hmt.vt, by simpa using hln, hd.fe⟩, ⟨by omega, by omega⟩, ?_⟩
        · have := HI.out.1
          rw [hall] at this
          exact this.same (hO _ (by omega))
        · have h8 := hd.mv.same (HR.out.2.2.2.block (N + 3) (by have := HM.out; omega))
          have hr := h8.same (HI.out.2.block (N + 3) (by have := HM.out; omega) (by simp))
          exact hr.same (hO _ (by omega))
        · have := rkL_le ss s
          have := HR.out.1.length_eq
          omega
        · have hb8 : Below w.heap.size w W8 := HM.out.2.1.trans (HR.out.2.2.2.mono HM.out.2.1.size)
          have hbr : Below w.heap.size w wr := hb8.trans (HI.out.2.below hb8.size (by simp; omega))
          rw [← eZ]
          exact (hbr.setCell (p := ⟨N + 1, 0, none⟩) (by show w.heap.size ≤ N + 1; omega) _).setCell (p := ⟨N + 1, 1, none⟩) (by show w.heap.size ≤ N + 1; omega) _
      clear hall hZ hO hRr hR8
      go_wp2
      try rw [eZ]
      refine bodyPost_ret (v := .agg #[.map (some (N + 2)), .map (some (N + 3))]) (by simp [results, Try.results23, go_sem, v0, v1]) rfl ⟨N + 2, N + 3, rfl, HF.out⟩

end Go.Proofs.Ytpahgmidofacaaa
