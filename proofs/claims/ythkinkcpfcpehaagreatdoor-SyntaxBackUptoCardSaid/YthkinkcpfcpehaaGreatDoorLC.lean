import Derived.Test.YthkinkcpfcpehaaGreatDoorLX
namespace Go.Proofs.YthkinkcpfcpehaaGreatDoor.Lx
set_option maxRecDepth 100000
set_option maxHeartbeats 8000000
section
open Go.RowKit Go.Shelf
attribute [local go_sem] Oper.semAt_some
set_option maxRecDepth 100000 in
theorem lex_any (s : ByteArray) (w : World) (hs : s.size ≤ 2097154) (hit : (itms (lexL 0 s.data.toList)).length ≤ 2097155) : Calls Tryz.prog 54 #[.string s] w (LexP (lexL 0 s.data.toList) w) := by
  refine (callsIn_wide (n := 9)).1 ?_
  obtain ⟨W0, hW0⟩ : ∃ W0, ((((w.alloc (.cells #[.slice none 0 0] 47)).alloc (.cells #[.int .i64 0] 3)).alloc (.cells #[.int .i64 0] 28)).alloc (.cells #[.slice none 0 0] 47)).alloc (.cells #[.string s] 9) = W0 := ⟨_, rfl⟩
  have hsz : W0.heap.size = w.heap.size + 5 := by rw [← hW0]; simp
  have hbel : Below w.heap.size w W0 := by rw [← hW0]; exact (((below_box2 w _ _).alloc (by simp; omega) _).alloc (by simp; omega) _).alloc (by simp; omega) _
  have hq0 : Boxed W0 w.heap.size 47 (.slice none 0 0) := by rw [← hW0]; exact ((((Boxed.new w 47 _).alloc _).alloc _).alloc _).alloc _
  have hq1 : Boxed W0 (w.heap.size + 1) 3 (.int .i64 0) := by
    have := (((Boxed.new (w.alloc (.cells #[.slice none 0 0] 47)) 3 (.int .i64 0)).alloc (.cells #[.int .i64 0] 28)).alloc (.cells #[.slice none 0 0] 47)).alloc (.cells #[.string s] 9)
    rw [World.size_alloc] at this
    rw [← hW0]; exact this
  have hq2 : Boxed W0 (w.heap.size + 2) 28 (.int .i64 0) := by
    have := ((Boxed.new ((w.alloc (.cells #[.slice none 0 0] 47)).alloc (.cells #[.int .i64 0] 3)) 28 (.int .i64 0)).alloc (.cells #[.slice none 0 0] 47)).alloc (.cells #[.string s] 9)
    rw [World.size_alloc, World.size_alloc] at this
    rw [← hW0]; exact this
  have hq3 : Boxed W0 (w.heap.size + 3) 47 (.slice none 0 0) := by
    have := (Boxed.new (((w.alloc (.cells #[.slice none 0 0] 47)).alloc (.cells #[.int .i64 0] 3)).alloc (.cells #[.int .i64 0] 28)) 47 (.slice none 0 0)).alloc (.cells #[.string s] 9)
    rw [World.size_alloc, World.size_alloc, World.size_alloc] at this
    rw [← hW0]; exact this
  have hq4 : W0.heap[w.heap.size + 4]? = some (.cells #[.string s] 9 (0, 0)) := by
    have := (MapKept.heap_alloc ((((w.alloc (.cells #[.slice none 0 0] 47)).alloc (.cells #[.int .i64 0] 3)).alloc (.cells #[.int .i64 0] 28)).alloc (.cells #[.slice none 0 0] 47)) (.cells #[.string s] 9)).1
    rw [World.size_alloc, World.size_alloc, World.size_alloc, World.size_alloc] at this
    rw [← hW0]; exact this
  have hL0 : LGo w [w.heap.size + 4] [] W0 := ⟨.slice none 0 0, [], ⟨hq0, hq1, hq2, hq3, World.ownsRow_nil _ _ _ _, by simp; omega, by simp [Value.ownBlock], hbel, by omega⟩, rfl⟩
  clear hq0 hq1 hq2 hq3
  refine callsIn_of_wp_marks Tryz.func54 rfl trivial ?_ rfl
  simp only [Tryz.ntmps54, List.size_toArray, List.length_cons, List.length_nil, Nat.reduceAdd, Nat.reduceSub, Array.replicate_succ, Array.replicate_zero, List.push_toArray, List.append_toArray, List.nil_append, List.cons_append]
  gi_wp2_with (refine ⟨trivial, ?_⟩; gi_at_call 92; refine (callsIn_wide.2 (tokens_any _ _)).mono ?_; rintro e w' ⟨rfl, rfl⟩)
  try simp only [World.size_alloc]
  try rw [hW0]
  clear hW0
  obtain ⟨i0, hi0, hz0, hz1, hz2⟩ := info_parts Tryz.info57
  refine range_k (w0 := w) (all := itms (lexL 0 s.data.toList)) (E0 := [w.heap.size + 4]) (gf := 127) (lb := #[.pointer (some ⟨w.heap.size + 4, 0, none⟩)]) 9 rfl (enters_of Tryz.func127 (by kernel_rfl) rfl) rfl
    (fun W hW => tokens1_any w (w.heap.size + 4) s W (hbel.trans (hW.mono (by omega))) ((hW.block _ (by omega)).trans hq4) hs)
    (LGo w) (LEnd w (lexL 0 s.data.toList)) (lgo_abide w) (lend_abide w _) hL0 (by omega) (fun _ _ _ h r hr => by obtain ⟨v, cs, h, _⟩ := h; exact (h.low r hr).2)
    (fun x a' W => ∃ Bx, W.heap[Bx]? = some (.cells #[.int .i64 x.1.k, .int .i64 (x.1.a : Nat), .string (ofL x.1.t)] 57 (0, 0)) ∧ a' = { tmps := #[.string s, undef, .pointer (some ⟨w.heap.size, 0, none⟩), .pointer (some ⟨w.heap.size + 1, 0, none⟩), .pointer (some ⟨w.heap.size + 2, 0, none⟩), .pointer (some ⟨w.heap.size + 3, 0, none⟩), .pointer (some ⟨Bx, 0, none⟩), .int .i64 x.2, .string s, .func (.func 127) #[] #[.pointer (some ⟨w.heap.size + 4, 0, none⟩)], .agg #[.int .i64 x.1.k, .int .i64 (x.1.a : Nat), .string (ofL x.1.t)], .int .i64 x.2, undef, undef, undef, undef, undef, undef, undef, undef, undef, undef], defers := [] })
    ?hax ?assign ?body ?done ?stop
  case hax =>
    rintro x a' W l r o ⟨Bx, hbx, rfl⟩ hl
    refine ⟨Bx, (World.putObj_heap_other ?_).trans hbx, rfl⟩
    rintro rfl
    rw [hbx] at hl
    cases hl
  case assign =>
    rintro l x W K hK
    gi_wp2
    refine hK _ _ (below_box W _) ⟨W.heap.size, (MapKept.heap_alloc W _).1, ?_⟩
    simp
  case body =>
    rintro l E pre x a' W ⟨v, cs, hi1, hpre⟩ hl hw ⟨rest, hrest⟩ ⟨Bx, hbx, rfl⟩
    obtain ⟨⟨xk, xa, xt⟩, xe⟩ := x
    simp only at hbx ⊢
    have hcs : cs.length < 2097155 := by
      have h1 := congrArg List.length hrest
      rw [hpre] at h1
      simp at h1
      omega
    have x0 : W.cell? ⟨Bx, 0, none⟩ = some (.int .i64 xk) := cell_at hbx rfl
    have x1 : W.cell? ⟨Bx, 1, none⟩ = some (.int .i64 (xa : Nat)) := cell_at hbx rfl
    have x2 : W.cell? ⟨Bx, 2, none⟩ = some (.string (ofL xt)) := cell_at hbx rfl
    have n0 : Bx ≠ w.heap.size := fun e => by have := hi1.b0; rw [Boxed, ← e, hbx] at this; cases this
    have n1 : Bx ≠ w.heap.size + 1 := fun e => by have := hi1.b1; rw [Boxed, ← e, hbx] at this; cases this
    have n2 : Bx ≠ w.heap.size + 2 := fun e => by have := hi1.b2; rw [Boxed, ← e, hbx] at this; cases this
    have HI : Hid (LI w (.slice none 0 0) (.int .i64 0) (.int .i64 0) E v cs W) := hi1
    have HP : Hid (pre = cs.map fun t => (t, 0)) := hpre
    clear hbel hq4 hL0 hit
    by_cases he : xe = 0
    · subst he
      have d3 := hi1.b3.cell
      obtain ⟨ka, kb, rfl⟩ := row_slice hi1.row
      obtain ⟨j1, j2⟩ := hi1.grow (below_box W (.cells #[.int .i64 xk, .int .i64 (xa : Nat), .string (ofL xt)] 57))
      have hrow2 := j2.row
      have hsz2 := j2.size
      obtain ⟨n, hn⟩ : ∃ n, cs.length = n := ⟨_, rfl⟩
      rw [hn] at hcs d3 hrow2
      have fin : ∀ v' w3, w3.ownsRow (w.heap.size + 5) 57 3 v' (n + 1) (flK cs ++ [.int .i64 xk, .int .i64 (xa : Nat), .string (ofL xt)]) → (W.alloc (.cells #[.int .i64 xk, .int .i64 (xa : Nat), .string (ofL xt)] 57)).grownBy w3 (Value.slice ka n kb).ownBlock → (v'.ownBlock = (Value.slice ka n kb).ownBlock ∨ v'.ownBlock = some (W.alloc (.cells #[.int .i64 xk, .int .i64 (xa : Nat), .string (ofL xt)] 57)).heap.size) →
          (w3.cell? ⟨w.heap.size + 3, 0, none⟩ = some (.slice ka n kb) ∧ w3.frozen? ⟨w.heap.size + 3, 0, none⟩ = false) ∧ Hid (Kept w.heap.size E W (w3.setCell ⟨w.heap.size + 3, 0, none⟩ v') ∧ LGo w E (pre ++ [(⟨xk, xa, xt⟩, 0)]) (w3.setCell ⟨w.heap.size + 3, 0, none⟩ v')) := by
        intro v' w3 hown hg hat
        rw [← hn] at hown hg hat ⊢
        obtain ⟨hcf, k3, h3⟩ := j2.push ⟨xk, xa, xt⟩ v' w3 hown hg hat
        exact ⟨hcf, j1.trans k3, _, _, h3, by rw [HP.out]; simp⟩
      obtain ⟨T, hT⟩ : ∃ T, ofL xt = T := ⟨_, rfl⟩
      rw [hT] at x2 fin hrow2 hsz2
      clear j1 j2 hi1 hn hbx hpre hrest hw hT n0 n1 n2
      gi_wp2_with (first
        | (gi_at_builtin; refine wpListIn_append_own_at _ rfl _ _ 47 rfl (w.heap.size + 5) 57 i0 _ 3 32 Tryz.underlying47 hi0 hz0 hz1 hz2 rfl (by decide) _ _ _ rfl hrow2 ⟨W.heap.size, 0, none⟩ 1 1 [.int .i64 xk, .int .i64 (xa : Nat), .string T] rfl rfl (lit3 _ _ _ _ _ _ rfl) one3 (by unfold maxLen; omega) (by omega) hsz2 ?_; intro v' w3 hown hg _ hat; obtain ⟨⟨f1, f2⟩, HF⟩ := fin v' w3 hown hg hat; obtain ⟨a', cap', rfl⟩ := row_slice hown; clear hown hg hat))
      exact HF
    · have he' : (xe != 0) = true := by simpa using he
      have he2 : (xe == 0) = false := by simpa using he
      obtain ⟨Wd, hWd⟩ : ∃ X, W.drew = X := ⟨_, rfl⟩
      have HQ : Hid ((lexL 0 s.data.toList).2.2 = xe ∧ (lexL 0 s.data.toList).2.1 = xa) := itms_err (t := ⟨xk, xa, xt⟩) (by rw [← hrest, hpre]) he
      have hbd : Below W.heap.size W Wd := by rw [← hWd]; exact (Below.refl _ W).drew
      have hbxd : Wd.heap[Bx]? = some (.cells #[.int .i64 xk, .int .i64 (xa : Nat), .string (ofL xt)] 57 (0, 0)) := by rw [← hWd]; exact hbx
      obtain ⟨k1, h1⟩ := hi1.grow hbd
      obtain ⟨k2, h2⟩ := h1.set0 (.slice none 0 0)
      obtain ⟨k3, h3⟩ := h2.set1 (.int .i64 (xa : Nat))
      obtain ⟨k4, h4⟩ := h3.set2 (.int .i64 xe)
      have HF : Hid (Kept w.heap.size E W (((Wd.setCell ⟨w.heap.size, 0, none⟩ (.slice none 0 0)).setCell ⟨w.heap.size + 1, 0, none⟩ (.int .i64 (xa : Nat))).setCell ⟨w.heap.size + 2, 0, none⟩ (.int .i64 xe)) ∧ LEnd w (lexL 0 s.data.toList) E (pre ++ [(⟨xk, xa, xt⟩, xe)]) (((Wd.setCell ⟨w.heap.size, 0, none⟩ (.slice none 0 0)).setCell ⟨w.heap.size + 1, 0, none⟩ (.int .i64 (xa : Nat))).setCell ⟨w.heap.size + 2, 0, none⟩ (.int .i64 xe))) :=
        ⟨((k1.trans k2).trans k3).trans k4, v, cs, by obtain ⟨q1, q2⟩ := HQ.out; rw [q1, q2]; exact h4, by rw [HQ.out.1]; exact he⟩
      have y1 : Wd.cell? ⟨Bx, 1, none⟩ = some (.int .i64 (xa : Nat)) := cell_at hbxd rfl
      have hbx1 : (Wd.setCell ⟨w.heap.size, 0, none⟩ (.slice none 0 0)).heap[Bx]? = some (.cells #[.int .i64 xk, .int .i64 (xa : Nat), .string (ofL xt)] 57 (0, 0)) := (Below.heap_setCell _ _ _ Bx n0).trans hbxd
      have y2 : (Wd.setCell ⟨w.heap.size, 0, none⟩ (.slice none 0 0)).cell? ⟨Bx, 1, none⟩ = some (.int .i64 (xa : Nat)) := cell_at hbx1 rfl
      have c0 := h1.b0.cell
      have f0 := h1.b0.frozen
      have c1 := h2.b1.cell
      have f1 := h2.b1.frozen
      have c2 := h3.b2.cell
      have f2 := h3.b2.frozen
      clear hi1 hbx hpre hrest hw k1 h1 k2 h2 k3 h3 k4 h4 hbx1 hbxd x0 x1 x2 hbd n0 n1 n2
      gi_wp2
      refine wpIn_region_any (by kernel_rfl) ?_
      try (change wpAnyIn _ _ _ _ _ _ _ _ _ (World.drew _))
      rw [hWd]
      refine wpAnyIn_ready (rs := [0, 2, 3]) (by kernel_rfl) (by simp) ?_
      refine AllReadyIn.cons rfl (fun K hK => ?_) ?_
      · go_simp
        refine hK _ _ ?_
        clear hK K
        refine wpAnyIn_ready (rs := [1, 2, 3]) (by kernel_rfl) (by simp) ?_
        refine AllReadyIn.cons rfl (fun K hK => ?_) ?_
        · go_simp
          refine hK _ _ ?_
          clear hK K
          refine wpAnyIn_ready (rs := [2, 3]) (by kernel_rfl) (by simp) ?_
          refine AllReadyIn.cons rfl (fun K hK => ?_) ?_
          · go_simp
            refine hK _ _ ?_
            clear hK K
            refine wpAnyIn_ready (rs := [3]) (by kernel_rfl) (by simp) ?_
            refine AllReadyIn.cons rfl (fun K hK => ?_) AllReadyIn.nil
            go_simp
            refine hK _ _ ?_
            clear hK K
            refine wpAnyIn_ready (rs := [4]) (by kernel_rfl) (by simp) ?_
            refine AllReadyIn.cons rfl (fun K hK => ?_) AllReadyIn.nil
            go_simp
            refine hK _ _ ?_
            clear hK K
            refine wpAnyIn_ready (rs := [5]) (by kernel_rfl) (by simp) ?_
            refine AllReadyIn.cons rfl (fun K hK => ?_) AllReadyIn.nil
            go_simp
            refine hK _ _ ?_
            clear hK K
            refine wpAnyIn_done (by kernel_rfl) ?_ _
            (first | exact HF.out | (gi_wp2; exact HF.out))
          refine AllReadyIn.cons rfl (fun K hK => ?_) AllReadyIn.nil
          go_simp
          refine hK _ _ ?_
          clear hK K
          refine wpAnyIn_ready (rs := [2, 4]) (by kernel_rfl) (by simp) ?_
          refine AllReadyIn.cons rfl (fun K hK => ?_) ?_
          · go_simp
            refine hK _ _ ?_
            clear hK K
            refine wpAnyIn_ready (rs := [4]) (by kernel_rfl) (by simp) ?_
            refine AllReadyIn.cons rfl (fun K hK => ?_) AllReadyIn.nil
            go_simp
            refine hK _ _ ?_
            clear hK K
            refine wpAnyIn_ready (rs := [5]) (by kernel_rfl) (by simp) ?_
            refine AllReadyIn.cons rfl (fun K hK => ?_) AllReadyIn.nil
            go_simp
            refine hK _ _ ?_
            clear hK K
            refine wpAnyIn_done (by kernel_rfl) ?_ _
            (first | exact HF.out | (gi_wp2; exact HF.out))
          refine AllReadyIn.cons rfl (fun K hK => ?_) AllReadyIn.nil
          go_simp
          refine hK _ _ ?_
          clear hK K
          refine wpAnyIn_ready (rs := [2]) (by kernel_rfl) (by simp) ?_
          refine AllReadyIn.cons rfl (fun K hK => ?_) AllReadyIn.nil
          go_simp
          refine hK _ _ ?_
          clear hK K
          refine wpAnyIn_ready (rs := [5]) (by kernel_rfl) (by simp) ?_
          refine AllReadyIn.cons rfl (fun K hK => ?_) AllReadyIn.nil
          go_simp
          refine hK _ _ ?_
          clear hK K
          refine wpAnyIn_done (by kernel_rfl) ?_ _
          (first | exact HF.out | (gi_wp2; exact HF.out))
        refine AllReadyIn.cons rfl (fun K hK => ?_) ?_
        · go_simp
          refine hK _ _ ?_
          clear hK K
          refine wpAnyIn_ready (rs := [1, 3]) (by kernel_rfl) (by simp) ?_
          refine AllReadyIn.cons rfl (fun K hK => ?_) ?_
          · go_simp
            refine hK _ _ ?_
            clear hK K
            refine wpAnyIn_ready (rs := [3]) (by kernel_rfl) (by simp) ?_
            refine AllReadyIn.cons rfl (fun K hK => ?_) AllReadyIn.nil
            go_simp
            refine hK _ _ ?_
            clear hK K
            refine wpAnyIn_ready (rs := [4]) (by kernel_rfl) (by simp) ?_
            refine AllReadyIn.cons rfl (fun K hK => ?_) AllReadyIn.nil
            go_simp
            refine hK _ _ ?_
            clear hK K
            refine wpAnyIn_ready (rs := [5]) (by kernel_rfl) (by simp) ?_
            refine AllReadyIn.cons rfl (fun K hK => ?_) AllReadyIn.nil
            go_simp
            refine hK _ _ ?_
            clear hK K
            refine wpAnyIn_done (by kernel_rfl) ?_ _
            (first | exact HF.out | (gi_wp2; exact HF.out))
          refine AllReadyIn.cons rfl (fun K hK => ?_) AllReadyIn.nil
          go_simp
          refine hK _ _ ?_
          clear hK K
          refine wpAnyIn_ready (rs := [1]) (by kernel_rfl) (by simp) ?_
          refine AllReadyIn.cons rfl (fun K hK => ?_) AllReadyIn.nil
          go_simp
          refine hK _ _ ?_
          clear hK K
          refine wpAnyIn_ready (rs := [4]) (by kernel_rfl) (by simp) ?_
          refine AllReadyIn.cons rfl (fun K hK => ?_) AllReadyIn.nil
          go_simp
          refine hK _ _ ?_
          clear hK K
          refine wpAnyIn_ready (rs := [5]) (by kernel_rfl) (by simp) ?_
          refine AllReadyIn.cons rfl (fun K hK => ?_) AllReadyIn.nil
          go_simp
          refine hK _ _ ?_
          clear hK K
          refine wpAnyIn_done (by kernel_rfl) ?_ _
          (first | exact HF.out | (gi_wp2; exact HF.out))
        refine AllReadyIn.cons rfl (fun K hK => ?_) AllReadyIn.nil
        go_simp
        refine hK _ _ ?_
        clear hK K
        refine wpAnyIn_ready (rs := [1, 2]) (by kernel_rfl) (by simp) ?_
        refine AllReadyIn.cons rfl (fun K hK => ?_) ?_
        · go_simp
          refine hK _ _ ?_
          clear hK K
          refine wpAnyIn_ready (rs := [2, 4]) (by kernel_rfl) (by simp) ?_
          refine AllReadyIn.cons rfl (fun K hK => ?_) ?_
          · go_simp
            refine hK _ _ ?_
            clear hK K
            refine wpAnyIn_ready (rs := [4]) (by kernel_rfl) (by simp) ?_
            refine AllReadyIn.cons rfl (fun K hK => ?_) AllReadyIn.nil
            go_simp
            refine hK _ _ ?_
            clear hK K
            refine wpAnyIn_ready (rs := [5]) (by kernel_rfl) (by simp) ?_
            refine AllReadyIn.cons rfl (fun K hK => ?_) AllReadyIn.nil
            go_simp
            refine hK _ _ ?_
            clear hK K
            refine wpAnyIn_done (by kernel_rfl) ?_ _
            (first | exact HF.out | (gi_wp2; exact HF.out))
          refine AllReadyIn.cons rfl (fun K hK => ?_) AllReadyIn.nil
          go_simp
          refine hK _ _ ?_
          clear hK K
          refine wpAnyIn_ready (rs := [2]) (by kernel_rfl) (by simp) ?_
          refine AllReadyIn.cons rfl (fun K hK => ?_) AllReadyIn.nil
          go_simp
          refine hK _ _ ?_
          clear hK K
          refine wpAnyIn_ready (rs := [5]) (by kernel_rfl) (by simp) ?_
          refine AllReadyIn.cons rfl (fun K hK => ?_) AllReadyIn.nil
          go_simp
          refine hK _ _ ?_
          clear hK K
          refine wpAnyIn_done (by kernel_rfl) ?_ _
          (first | exact HF.out | (gi_wp2; exact HF.out))
        refine AllReadyIn.cons rfl (fun K hK => ?_) AllReadyIn.nil
        go_simp
        refine hK _ _ ?_
        clear hK K
        refine wpAnyIn_ready (rs := [1]) (by kernel_rfl) (by simp) ?_
        refine AllReadyIn.cons rfl (fun K hK => ?_) AllReadyIn.nil
        go_simp
        refine hK _ _ ?_
        clear hK K
        refine wpAnyIn_ready (rs := [4]) (by kernel_rfl) (by simp) ?_
        refine AllReadyIn.cons rfl (fun K hK => ?_) AllReadyIn.nil
        go_simp
        refine hK _ _ ?_
        clear hK K
        refine wpAnyIn_ready (rs := [5]) (by kernel_rfl) (by simp) ?_
        refine AllReadyIn.cons rfl (fun K hK => ?_) AllReadyIn.nil
        go_simp
        refine hK _ _ ?_
        clear hK K
        refine wpAnyIn_done (by kernel_rfl) ?_ _
        (first | exact HF.out | (gi_wp2; exact HF.out))
      refine AllReadyIn.cons rfl (fun K hK => ?_) ?_
      · go_simp
        refine hK _ _ ?_
        clear hK K
        refine wpAnyIn_ready (rs := [0, 3]) (by kernel_rfl) (by simp) ?_
        refine AllReadyIn.cons rfl (fun K hK => ?_) ?_
        · go_simp
          refine hK _ _ ?_
          clear hK K
          refine wpAnyIn_ready (rs := [1, 3]) (by kernel_rfl) (by simp) ?_
          refine AllReadyIn.cons rfl (fun K hK => ?_) ?_
          · go_simp
            refine hK _ _ ?_
            clear hK K
            refine wpAnyIn_ready (rs := [3]) (by kernel_rfl) (by simp) ?_
            refine AllReadyIn.cons rfl (fun K hK => ?_) AllReadyIn.nil
            go_simp
            refine hK _ _ ?_
            clear hK K
            refine wpAnyIn_ready (rs := [4]) (by kernel_rfl) (by simp) ?_
            refine AllReadyIn.cons rfl (fun K hK => ?_) AllReadyIn.nil
            go_simp
            refine hK _ _ ?_
            clear hK K
            refine wpAnyIn_ready (rs := [5]) (by kernel_rfl) (by simp) ?_
            refine AllReadyIn.cons rfl (fun K hK => ?_) AllReadyIn.nil
            go_simp
            refine hK _ _ ?_
            clear hK K
            refine wpAnyIn_done (by kernel_rfl) ?_ _
            (first | exact HF.out | (gi_wp2; exact HF.out))
          refine AllReadyIn.cons rfl (fun K hK => ?_) AllReadyIn.nil
          go_simp
          refine hK _ _ ?_
          clear hK K
          refine wpAnyIn_ready (rs := [1]) (by kernel_rfl) (by simp) ?_
          refine AllReadyIn.cons rfl (fun K hK => ?_) AllReadyIn.nil
          go_simp
          refine hK _ _ ?_
          clear hK K
          refine wpAnyIn_ready (rs := [4]) (by kernel_rfl) (by simp) ?_
          refine AllReadyIn.cons rfl (fun K hK => ?_) AllReadyIn.nil
          go_simp
          refine hK _ _ ?_
          clear hK K
          refine wpAnyIn_ready (rs := [5]) (by kernel_rfl) (by simp) ?_
          refine AllReadyIn.cons rfl (fun K hK => ?_) AllReadyIn.nil
          go_simp
          refine hK _ _ ?_
          clear hK K
          refine wpAnyIn_done (by kernel_rfl) ?_ _
          (first | exact HF.out | (gi_wp2; exact HF.out))
        refine AllReadyIn.cons rfl (fun K hK => ?_) AllReadyIn.nil
        go_simp
        refine hK _ _ ?_
        clear hK K
        refine wpAnyIn_ready (rs := [0]) (by kernel_rfl) (by simp) ?_
        refine AllReadyIn.cons rfl (fun K hK => ?_) AllReadyIn.nil
        go_simp
        refine hK _ _ ?_
        clear hK K
        refine wpAnyIn_ready (rs := [1]) (by kernel_rfl) (by simp) ?_
        refine AllReadyIn.cons rfl (fun K hK => ?_) AllReadyIn.nil
        go_simp
        refine hK _ _ ?_
        clear hK K
        refine wpAnyIn_ready (rs := [4]) (by kernel_rfl) (by simp) ?_
        refine AllReadyIn.cons rfl (fun K hK => ?_) AllReadyIn.nil
        go_simp
        refine hK _ _ ?_
        clear hK K
        refine wpAnyIn_ready (rs := [5]) (by kernel_rfl) (by simp) ?_
        refine AllReadyIn.cons rfl (fun K hK => ?_) AllReadyIn.nil
        go_simp
        refine hK _ _ ?_
        clear hK K
        refine wpAnyIn_done (by kernel_rfl) ?_ _
        (first | exact HF.out | (gi_wp2; exact HF.out))
      refine AllReadyIn.cons rfl (fun K hK => ?_) AllReadyIn.nil
      go_simp
      refine hK _ _ ?_
      clear hK K
      refine wpAnyIn_ready (rs := [0, 2]) (by kernel_rfl) (by simp) ?_
      refine AllReadyIn.cons rfl (fun K hK => ?_) ?_
      · go_simp
        refine hK _ _ ?_
        clear hK K
        refine wpAnyIn_ready (rs := [1, 2]) (by kernel_rfl) (by simp) ?_
        refine AllReadyIn.cons rfl (fun K hK => ?_) ?_
        · go_simp
          refine hK _ _ ?_
          clear hK K
          refine wpAnyIn_ready (rs := [2, 4]) (by kernel_rfl) (by simp) ?_
          refine AllReadyIn.cons rfl (fun K hK => ?_) ?_
          · go_simp
            refine hK _ _ ?_
            clear hK K
            refine wpAnyIn_ready (rs := [4]) (by kernel_rfl) (by simp) ?_
            refine AllReadyIn.cons rfl (fun K hK => ?_) AllReadyIn.nil
            go_simp
            refine hK _ _ ?_
            clear hK K
            refine wpAnyIn_ready (rs := [5]) (by kernel_rfl) (by simp) ?_
            refine AllReadyIn.cons rfl (fun K hK => ?_) AllReadyIn.nil
            go_simp
            refine hK _ _ ?_
            clear hK K
            refine wpAnyIn_done (by kernel_rfl) ?_ _
            (first | exact HF.out | (gi_wp2; exact HF.out))
          refine AllReadyIn.cons rfl (fun K hK => ?_) AllReadyIn.nil
          go_simp
          refine hK _ _ ?_
          clear hK K
          refine wpAnyIn_ready (rs := [2]) (by kernel_rfl) (by simp) ?_
          refine AllReadyIn.cons rfl (fun K hK => ?_) AllReadyIn.nil
          go_simp
          refine hK _ _ ?_
          clear hK K
          refine wpAnyIn_ready (rs := [5]) (by kernel_rfl) (by simp) ?_
          refine AllReadyIn.cons rfl (fun K hK => ?_) AllReadyIn.nil
          go_simp
          refine hK _ _ ?_
          clear hK K
          refine wpAnyIn_done (by kernel_rfl) ?_ _
          (first | exact HF.out | (gi_wp2; exact HF.out))
        refine AllReadyIn.cons rfl (fun K hK => ?_) AllReadyIn.nil
        go_simp
        refine hK _ _ ?_
        clear hK K
        refine wpAnyIn_ready (rs := [1]) (by kernel_rfl) (by simp) ?_
        refine AllReadyIn.cons rfl (fun K hK => ?_) AllReadyIn.nil
        go_simp
        refine hK _ _ ?_
        clear hK K
        refine wpAnyIn_ready (rs := [4]) (by kernel_rfl) (by simp) ?_
        refine AllReadyIn.cons rfl (fun K hK => ?_) AllReadyIn.nil
        go_simp
        refine hK _ _ ?_
        clear hK K
        refine wpAnyIn_ready (rs := [5]) (by kernel_rfl) (by simp) ?_
        refine AllReadyIn.cons rfl (fun K hK => ?_) AllReadyIn.nil
        go_simp
        refine hK _ _ ?_
        clear hK K
        refine wpAnyIn_done (by kernel_rfl) ?_ _
        (first | exact HF.out | (gi_wp2; exact HF.out))
      refine AllReadyIn.cons rfl (fun K hK => ?_) AllReadyIn.nil
      go_simp
      refine hK _ _ ?_
      clear hK K
      refine wpAnyIn_ready (rs := [0]) (by kernel_rfl) (by simp) ?_
      refine AllReadyIn.cons rfl (fun K hK => ?_) AllReadyIn.nil
      go_simp
      refine hK _ _ ?_
      clear hK K
      refine wpAnyIn_ready (rs := [1]) (by kernel_rfl) (by simp) ?_
      refine AllReadyIn.cons rfl (fun K hK => ?_) AllReadyIn.nil
      go_simp
      refine hK _ _ ?_
      clear hK K
      refine wpAnyIn_ready (rs := [4]) (by kernel_rfl) (by simp) ?_
      refine AllReadyIn.cons rfl (fun K hK => ?_) AllReadyIn.nil
      go_simp
      refine hK _ _ ?_
      clear hK K
      refine wpAnyIn_ready (rs := [5]) (by kernel_rfl) (by simp) ?_
      refine AllReadyIn.cons rfl (fun K hK => ?_) AllReadyIn.nil
      go_simp
      refine hK _ _ ?_
      clear hK K
      refine wpAnyIn_done (by kernel_rfl) ?_ _
      (first | exact HF.out | (gi_wp2; exact HF.out))
  case done =>
    rintro D E W hD ⟨v, cs, hi1, hpre⟩ hDE hK
    have hq := itms_ok hpre (lexL_place _ _ _ (Nat.le_refl _))
    have HQ : Hid (lexL 0 s.data.toList = (cs, 0, 0)) := hq
    obtain ⟨k2, h2⟩ := hi1.set0 v
    obtain ⟨k3, h3⟩ := h2.set1 (.int .i64 0)
    obtain ⟨k4, h4⟩ := h3.set2 (.int .i64 0)
    have dlow := hi1.low D hDE
    obtain ⟨Wf, hWf⟩ : ∃ X, ((W.setCell ⟨w.heap.size, 0, none⟩ v).setCell ⟨w.heap.size + 1, 0, none⟩ (.int .i64 0)).setCell ⟨w.heap.size + 2, 0, none⟩ (.int .i64 0) = X := ⟨_, rfl⟩
    rw [hWf] at k4 h4
    have g1 : Wf.heap[D]? = some (.deferred (some [])) := (((k2.trans k3).trans k4).mine D hDE).trans hK
    have po : ∀ k, k ≠ D → (Wf.putObj D (.deferred none)).heap[k]? = Wf.heap[k]? := fun k hk => World.putObj_heap_other hk
    have e0 := (boxed_block h4.b0 (po _ (by omega))).cell
    have e1 := (boxed_block h4.b1 (po _ (by omega))).cell
    have e2 := (boxed_block h4.b2 (po _ (by omega))).cell
    have hr5 := row_keep h4.row (fun g hg => po g (fun e => h4.mine g hg (e ▸ hDE)))
    have HR : Hid ((KsAt (Wf.putObj D (.deferred none)) v cs ∧ ∀ b, v.ownBlock = some b → b < (Wf.putObj D (.deferred none)).heap.size) ∧ Below w.heap.size w (Wf.putObj D (.deferred none))) :=
      ⟨⟨ksAt_of_row hr5, fun b hb => (hr5.lt b hb).2⟩, h4.bel.trans ⟨rfl, rfl, rfl, by simp, fun k hk => po k (by omega)⟩⟩
    have c3 := hi1.b3.cell
    have c0 := hi1.b0.cell
    have f0 := hi1.b0.frozen
    have c1 := h2.b1.cell
    have f1 := h2.b1.frozen
    have c2 := h3.b2.cell
    have f2 := h3.b2.frozen
    obtain ⟨va, vc, rfl⟩ := row_slice hi1.row
    clear hr5 hi1 hpre hq k2 h2 k3 h3 k4 h4 hK hL0 hbel hq4 po hit
    gi_wp2
    try rw [hWf]
    refine ⟨by simp, .inl ⟨_, _, rfl, run_takeDeferred g1, ?_⟩⟩
    refine ⟨_, by simp [results, Tryz.results54, go_sem, e0, e1, e2]; rfl, ?_⟩
    exact ⟨_, by rw [HQ.out]; rfl, by rw [HQ.out]; exact HR.out.1, HR.out.2⟩
  case stop =>
    rintro D E pre W hD ⟨v, cs, hi1, he⟩ hDE hK
    have dlow := hi1.low D hDE
    have po : ∀ k, k ≠ D → (W.putObj D (.deferred none)).heap[k]? = W.heap[k]? := fun k hk => World.putObj_heap_other hk
    have e0 := (boxed_block hi1.b0 (po _ (by omega))).cell
    have e1 := (boxed_block hi1.b1 (po _ (by omega))).cell
    have e2 := (boxed_block hi1.b2 (po _ (by omega))).cell
    have HR : Hid (Below w.heap.size w (W.putObj D (.deferred none))) := hi1.bel.trans ⟨rfl, rfl, rfl, by simp, fun k hk => po k (by omega)⟩
    have HE : Hid ((lexL 0 s.data.toList).2.2 ≠ 0) := he
    clear hi1 hL0 hbel hq4 po hit he
    gi_wp2
    refine ⟨by simp, .inl ⟨_, _, rfl, run_takeDeferred hK, ?_⟩⟩
    refine ⟨_, by simp [results, Tryz.results54, go_sem, e0, e1, e2]; rfl, ?_⟩
    exact ⟨_, rfl, ⟨by rw [if_neg HE.out]; exact KsAt.nil _, fun b hb => by cases hb⟩, HR.out⟩
end
section
open Go.RowKit
theorem all_step {s : ByteArray} {i : Nat} {p : UInt8 → Bool} (h : i < s.size) : (s.data.toList.drop i).all p = (p s[i] && (s.data.toList.drop (i + 1)).all p) := by
  rw [drop_cons s i h]; rfl
theorem isName_any (s : ByteArray) (w : World) (hs : s.size ≤ 2097154) : Calls Tryz.prog 116 #[.string s] w fun e w' => e = .returned (.bool (nmB s.data.toList)) ∧ w' = w := by
  cases hb : bnB s.data.toList
  · have HE : Hid (nmB s.data.toList = false) := by show _ = _; unfold nmB; rw [hb]; rfl
    go_enter Tryz.func116, Tryz.ntmps116
    go_wp2_with (first | (go_at_call 155; refine (begins_any s _).mono ?_; rw [hb]; rintro e w' ⟨rfl, rfl⟩))
    all_goals go_ret
    all_goals exact ⟨ret_bool HE.out.symm, rfl⟩
  · have HB : Hid (bnB s.data.toList = true) := hb
    have hc : ∀ W, Calls Tryz.prog 155 #[.string s] W fun e w' => e = .returned (.bool true) ∧ w' = W := fun W => by have := begins_any s W; rwa [hb] at this
    clear hb
    by_cases h6 : s.size ≤ 63
    · have HE : Hid (nmB s.data.toList = (s.data.toList.drop 0).all fun c => prB c.toNat) := by show _ = _; unfold nmB; rw [HB.out, size_len, List.drop_zero]; simp [h6]
      go_enter Tryz.func116, Tryz.ntmps116
      go_wp2_with (first | (go_at_call 155; refine (hc _).mono ?_; rintro e w' ⟨rfl, rfl⟩))
      go_loopw [14] (fun vi wr => ∃ i : Nat, vi = .int .i64 i ∧ i ≤ s.size ∧ wr = w' ∧ Hid (nmB s.data.toList = (s.data.toList.drop i).all fun c => prB c.toNat)) (fun vi _ => s.size - (intOf vi).toNat)
      case atStart => exact ⟨0, rfl, Nat.zero_le _, rfl, HE.out⟩
      case round =>
        obtain ⟨i, rfl, hi, rfl, HI⟩ := hrel
        by_cases hlt : i < s.size
        · have HD : Hid (nmB s.data.toList = (prB s[i].toNat && (s.data.toList.drop (i + 1)).all fun c => prB c.toNat)) := by show _ = _; rw [HI.out, all_step hlt]
          cases hw : prB s[i].toNat
          · rw [hw] at HD
            go_wp2_with (go_at_call 156; refine (printable_any _ _).mono ?_; rintro e w' ⟨rfl, rfl⟩)
            go_ret
            exact ⟨ret_bool HD.out.symm, rfl⟩
          · rw [hw] at HD
            go_wp2_with (go_at_call 156; refine (printable_any _ _).mono ?_; rintro e w' ⟨rfl, rfl⟩)
            go_roundw
            case rel => exact ⟨i + 1, by go_num, by omega, by simp, HD.out⟩
            case measure => simp [intOf]; omega
        · have HD : Hid (nmB s.data.toList = true) := by show _ = _; rw [HI.out, drop_end s i (by omega)]; rfl
          go_wp2
          go_ret
          exact ⟨ret_bool HD.out.symm, rfl⟩
    · have HE : Hid (nmB s.data.toList = false) := by show _ = _; unfold nmB; rw [HB.out, size_len]; simp [h6]
      go_enter Tryz.func116, Tryz.ntmps116
      go_wp2_with (first | (go_at_call 155; refine (hc _).mono ?_; rintro e w' ⟨rfl, rfl⟩))
      all_goals go_ret
      all_goals exact ⟨ret_bool HE.out.symm, rfl⟩
end
