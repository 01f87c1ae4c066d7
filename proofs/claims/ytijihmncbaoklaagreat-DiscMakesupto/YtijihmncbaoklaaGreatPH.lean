/-
  unify.matched's closure: the walk.
-/
import Derived.Test.YtijihmncbaoklaaGreatPG
namespace Go.Proofs.YtijihmncbaoklaaGreat
open Go.RowKit Go.Maps

theorem cap6 {W : World} {base : Nat} {e : TypeId} {s n g k cap : Nat} {xs : List Value} (h : W.ownsRow base e s (.slice (some ⟨g, 0, none⟩) n cap) k xs) : n ≤ cap := by
  rcases h.2 with ⟨e, _⟩ | ⟨g', cap', cur, e, _, _, h1, _⟩
  · cases e
  · cases e; exact h1

theorem ta_none {σ : Sg} {v : Int} (h : σ.ta v = none) : σ v = none := by
  unfold Sg.ta at h
  simpa using h
theorem ta_some {σ : Sg} {v : Int} {t : T} (h : σ.ta v = some t) : ∃ sl, σ v = some (t, sl) := by
  unfold Sg.ta at h
  obtain ⟨⟨t', sl⟩, h1, rfl⟩ := Option.map_eq_some_iff.1 h
  exact ⟨sl, h1⟩

theorem mtot_snoc (qs : List Pr) (q : Pr) : mtot ((qs ++ [q]).map Pr.ts) = mtot (qs.map Pr.ts) + q.1.1.nn := by
  rw [List.map_append, mtot_append]
  simp [mtot, Pr.ts]

theorem args_nn (p : T) : p.args.length ≤ p.nn := by
  rw [T.nn_eq]
  have h : ∀ l : List T, l.length ≤ (l.map T.nn).sum := by
    intro l
    induction l with
    | nil => exact Nat.zero_le _
    | cons a r ih => have := a.nn_pos; simp; omega
  have := h p.args
  omega

theorem must_ok (p t : T) (a b : Option Addr) (c d : Nat) (w : World) (hf : p.fn = t.fn) (hl : p.args.length = t.args.length) :
    Calls Tryz.prog 88 #[tval p (.slice a p.args.length c), tval t (.slice b t.args.length d)] w fun e w' => e = .returned (.tuple #[]) ∧ Below w.heap.size w w' := by
  rw [← hl]
  exact (must_yes p t a b p.args.length c d w hf).mono fun e w' h => ⟨h.1, by rw [h.2]; exact below_box2 w _ _⟩
theorem must_no (p t : T) (a b : Option Addr) (c d : Nat) (w : World) (h : p.fn ≠ t.fn ∨ (p.fn = t.fn ∧ p.args.length ≠ t.args.length)) :
    Calls Tryz.prog 88 #[tval p (.slice a p.args.length c), tval t (.slice b t.args.length d)] w fun e w' => e = .panicked misfit ∧ Below w.heap.size w w' := by
  rcases h with h | ⟨h1, h2⟩
  · exact (must_fn p t a b _ c _ d w h).mono fun e w' h => ⟨h.1, by rw [h.2]; exact below_box2 w _ _⟩
  · exact (must_len p t a b _ c _ d w h1 h2).mono fun e w' h => ⟨h.1, by rw [h.2]; exact below_box2 w _ _⟩

theorem step_append_own (w : World) {ops : Array Oper} {o : Oper} {a : Act} {K : Act → World → Prop} {Q : Exit → Act → World → Prop} {X : Prop} (hgd : o.guard = none) (s x : Operand) (t : TypeId)
    (ho : o.op = .call { callee := .builtin .append, args := #[s, x], argTypes := #[t, t] })
    (base : Nat) (e : TypeId) (i : TypeInfo) (z : Value) (size bytes : Nat) (ht : Tryz.prog.underlying t = some (.slice e)) (hi : Tryz.prog.info? e = some i) (hz : i.zero = some z)
    (hsize : i.size = size) (hby : i.bytes = bytes) (hzs : z.cells.size = size) (hsz : 0 < size)
    (v : Value) (n : Nat) (xs : List Value) (hs : a.eval s = v) (hown : w.ownsRow base e size v n xs)
    (ad : Addr) (m c : Nat) (news : List Value) (hx : a.eval x = .slice (some ad) m c) (hl : news.length = m * size) (hnews : ∀ j u, news[j]? = some u → w.cell? (ad.add j) = some u) (h1 : ∀ u ∈ news, u.oneCell' = true)
    (h63 : n + m ≤ maxLen) (hbytes : (n + m) * bytes ≤ 140737488355328) (hbase : base ≤ w.heap.size)
    (h : ∀ v' w', w'.ownsRow base e size v' (n + m) (xs ++ news) → w.grownBy w' v.ownBlock → (v'.ownBlock = v.ownBlock ∨ v'.ownBlock = some w.heap.size) → K (a.put o.dst v') w') :
    if Region.wanted o (yielded ops a.tmps) = true then Oper.wp Tryz.prog o a w K Q else X := by
  rw [if_pos (by simp [Region.wanted, hgd])]
  obtain ⟨v', w', hr, h2, h3, _, h5⟩ := run_append_own_at (P := Tryz.prog) w base t o.type e i z size bytes ht hi hz hsize hby hzs hsz v n xs hown ad m c news hl hnews h1 h63 hbytes hbase
  unfold Oper.wp execOp
  simp only [ho, resolve, invoke, builtin, Sem.run_bind, Sem.run_pure, Result.andThen_ok, List.map_toArray, List.map_cons, List.map_nil, hs, hx, hr]
  exact h v' w' h2 h3 h5

theorem below_box2x (Y : World) (o : Obj) : Below Y.heap.size Y (Y.alloc o).drew := (below_box Y o).drew

theorem lit6 (w : World) (a b c d e f : Value) (ty : TypeId) : ∀ j x, [a, b, c, d, e, f][j]? = some x → ((w.alloc (.cells #[a, b, c, d, e, f] ty)).drew).cell? ((⟨w.heap.size, 0, none⟩ : Addr).add j) = some x := by
  intro j x hj
  have ea : (⟨w.heap.size, 0, none⟩ : Addr).add j = ⟨w.heap.size, j, none⟩ := by unfold Addr.add; split <;> simp_all
  show (w.alloc (.cells #[a, b, c, d, e, f] ty)).cell? _ = _
  rw [ea, World.cell?_alloc_new]
  simpa using hj

theorem one6 (p t : T) (a b : Option Addr) (m n c d : Nat) : ∀ u ∈ cells6 ((p, .slice a m c), (t, .slice b n d)), u.oneCell' = true := by
  intro u hu
  simp only [cells6, List.mem_cons, List.not_mem_nil, or_false] at hu
  rcases hu with rfl | rfl | rfl | rfl | rfl | rfl <;> rfl

set_option maxRecDepth 100000 in
set_option maxHeartbeats 4000000 in
theorem closure_any (w0 w : World) (Bp Bt Bm bm N : Nat) (p t : T) (sp st : Value) (res : Option Ta) (h0 : Below w0.heap.size w0 w) (hp : ArgsAt w0 sp p.args) (ht : ArgsAt w0 st t.args)
    (cp : w.heap[Bp]? = some (.cells #[.int .i64 p.v, .string p.fn, sp] 32 (0, 0))) (ct : w.heap[Bt]? = some (.cells #[.int .i64 t.v, .string t.fn, st] 32 (0, 0)))
    (cm : w.cell? ⟨Bm, 0, none⟩ = some (.map (some bm))) (hbm0 : w0.heap.size ≤ bm) (hBm : Bm ≠ bm) (hmap : MapIs w 3 bm (fun _ => none) 0) (hsh : p.shape = true) (hN : p.nn ≤ N) (hN2 : N ≤ 1073741824)
    (hrun : MRun [(p, t)] (fun _ => none) res) :
    Calls Tryz.prog 85 #[.pointer (some ⟨Bp, 0, none⟩), .pointer (some ⟨Bt, 0, none⟩), .pointer (some ⟨Bm, 0, none⟩)] w fun e W => MOut w0 w bm N res e W := by
  obtain ⟨pa, pc, rfl, _, _⟩ := hp.slice
  obtain ⟨ta, tc, rfl, _, _⟩ := ht.slice
  obtain ⟨⟨p0, p1, p2⟩, _⟩ := box_facts cp
  obtain ⟨⟨t0, t1, t2⟩, _⟩ := box_facts ct
  have hbm : bm < w.heap.size := hmap.lt
  have hBml := World.block_lt_of_cell? w _ cm
  have hmap' : MapIs w 3 bm (pm fun _ => none) 0 := by
    have e : pm (fun _ => none) = fun _ => none := by funext x; unfold pm; split <;> rfl
    rw [e]; exact hmap
  have HST : Hid (LI w0 w bm N res [((p, .slice pa p.args.length pc), (t, .slice ta t.args.length tc))] (fun _ => none) 0 (.slice (some ⟨w.heap.size, 0, none⟩) 1 1) (w.alloc (.cells #[.int .i64 p.v, .string p.fn, .slice pa p.args.length pc, .int .i64 t.v, .string t.fn, .slice ta t.args.length tc] 142))) := by
    have hb := below_box w (.cells #[.int .i64 p.v, .string p.fn, .slice pa p.args.length pc, .int .i64 t.v, .string t.fn, .slice ta t.args.length tc] 142)
    refine ⟨World.ownsRow_lit w _ 1 (Nat.le_refl _) (by unfold maxLen; omega) rfl, ?_, hmap'.same (hb.block bm hbm), (fun x t sl h => by cases h), Only.of_below hb, by simpa [mtot, Pr.ts] using hN, hrun⟩
    intro q hq
    simp only [List.mem_singleton] at hq
    subst hq
    exact ⟨hp, ht, hsh⟩
  have H0 : Hid (Below w0.heap.size w0 w ∧ w0.heap.size ≤ bm ∧ Bm ≠ bm ∧ w.cell? ⟨Bm, 0, none⟩ = some (.map (some bm))) := ⟨h0, hbm0, hBm, cm⟩
  clear hp ht cp ct hmap hmap' hrun h0 cm hbm0 hBm hsh hN
  go_enter Tryz.func85, Tryz.ntmps85
  go_wp2
  go_loopg [3] (N + 1) (fun k v wr => ∃ ps σ n, Hid (LI w0 w bm N res ps σ n v wr) ∧ mtot (ps.map Pr.ts) < k)
  case atStart => exact ⟨_, _, _, HST.out, by have := HST.out.tot; omega⟩
  case round =>
    rename World => wq
    obtain ⟨ps, σ, n, HL, hk⟩ := hrel
    have hwq : Below w0.heap.size w0 wq := H0.out.1.trans (HL.out.only.below H0.out.1.size (fun r hr => by simp at hr; subst hr; exact H0.out.2.1))
    have cm : wq.cell? ⟨Bm, 0, none⟩ = some (.map (some bm)) := (World.cell?_of_block (HL.out.only.block Bm hBml (by simpa using H0.out.2.2.1))).trans H0.out.2.2.2
    by_cases hne : ps = []
    · have HM : Hid (MOut w0 w bm N res (.returned (.tuple #[])) wq) := by
        have hr := HL.out.run
        subst hne
        cases hr
        refine ⟨HL.out.only, rfl, σ, n, HL.out.map, rfl, by have := HL.out.tot; omega, HL.out.sub⟩
      obtain ⟨va, vc, hv⟩ := rowB_form HL.out.row
      subst hne
      subst hv
      clear hwq cm
      go_wp2
      refine bodyPost_end (results_none rfl _ _ _) rfl ?_
      exact HM.out
    · obtain ⟨qs, q, rfl⟩ := ps_last hne
      obtain ⟨⟨p, sp⟩, ⟨t, st⟩⟩ := q
      obtain ⟨m, hm⟩ : ∃ m, qs.length = m := ⟨_, rfl⟩
      have hrow := HL.out.row
      rw [List.length_append, List.length_singleton, hm] at hrow
      obtain ⟨g, cap, rfl⟩ := ownsRow_succ hrow
      have HR : Hid (wq.ownsRow w.heap.size 142 6 (.slice (some ⟨g, 0, none⟩) m cap) m (flat6 qs)) := (last6 hm hrow).2
      obtain ⟨ha, hb', hsh'⟩ := HL.out.args _ (List.mem_append_right _ List.mem_cons_self)
      simp only at ha hb' hsh'
      obtain ⟨a5, c5, rfl, _, _⟩ := ha.slice
      obtain ⟨a6, c6, rfl, _, _⟩ := hb'.slice
      obtain ⟨x0, x1, x2, x3, x4, x5⟩ := (last6 hm hrow).1
      simp only at x0 x1 x2 x3 x4 x5
      have hgl := (hrow.lt g rfl).2
      have hcap : m + 1 ≤ cap := cap6 hrow
      have hm2 : m ≤ 1073741824 := by
        have := HL.out.tot
        have h2 := mtot_ge qs
        rw [List.map_append, mtot_append] at this
        omega
      clear hrow hne
      have HA : Hid (ArgsAt w0 (.slice a5 p.args.length c5) p.args ∧ ArgsAt w0 (.slice a6 t.args.length c6) t.args ∧ p.shape = true ∧ Below w0.heap.size w0 wq ∧ wq.cell? ⟨Bm, 0, none⟩ = some (.map (some bm)) ∧ qs.length = m) := ⟨ha, hb', hsh', hwq, cm, hm⟩
      clear ha hb' hsh' hwq hm cm
      have n0 := World.new_ne wq _ x0
      have n1 := World.new_ne wq _ x1
      have n2 := World.new_ne wq _ x2
      have n3 := World.new_ne wq _ x3
      have n4 := World.new_ne wq _ x4
      have n5 := World.new_ne wq _ x5
      have i0 : (0 : Int) ≤ (m : Int) := Int.natCast_nonneg m
      have i1 : (m : Int) < (m : Int) + 1 := by omega
      have i2 : (m : Int) ≤ (cap : Int) := by omega
      go_wp2
      go_region_held3 (fun X => X.cell? ⟨g, m * 6, none⟩ = some (.int .i64 p.v) ∧ X.cell? ⟨g, m * 6 + 1, none⟩ = some (.string p.fn) ∧ X.cell? ⟨g, m * 6 + 2, none⟩ = some (.slice a5 p.args.length c5) ∧ X.cell? ⟨g, m * 6 + 3, none⟩ = some (.int .i64 t.v) ∧ X.cell? ⟨g, m * 6 + 4, none⟩ = some (.string t.fn) ∧ X.cell? ⟨g, m * 6 + 5, none⟩ = some (.slice a6 t.args.length c6)) (go_keep) (fail)
      · obtain ⟨X, hX⟩ : ∃ X, ((wq.alloc (.cells #[.int .i64 p.v, .string p.fn, .slice a5 p.args.length c5] 32)).alloc (.cells #[.int .i64 t.v, .string t.fn, .slice a6 t.args.length c6] 32)).drew = X := ⟨_, rfl⟩
        have hbX : Below wq.heap.size wq X := by rw [← hX]; exact (below_box2 wq _ _).drew
        have hx0 : X.heap[wq.heap.size]? = some (.cells #[.int .i64 p.v, .string p.fn, .slice a5 p.args.length c5] 32 (0, 0)) := by
          rw [← hX]
          exact (below_box (wq.alloc (.cells #[.int .i64 p.v, .string p.fn, .slice a5 p.args.length c5] 32)) (.cells #[.int .i64 t.v, .string t.fn, .slice a6 t.args.length c6] 32)).block _ (by simp) |>.trans (MapKept.heap_alloc wq (.cells #[.int .i64 p.v, .string p.fn, .slice a5 p.args.length c5] 32)).1
        have hx1 : X.heap[wq.heap.size + 1]? = some (.cells #[.int .i64 t.v, .string t.fn, .slice a6 t.args.length c6] 32 (0, 0)) := by
          rw [← hX]
          have := (MapKept.heap_alloc (wq.alloc (.cells #[.int .i64 p.v, .string p.fn, .slice a5 p.args.length c5] 32)) (.cells #[.int .i64 t.v, .string t.fn, .slice a6 t.args.length c6] 32)).1
          rw [World.size_alloc] at this
          exact this
        have hXs : X.heap.size = wq.heap.size + 2 := by rw [← hX]; simp [World.drew]
        rw [hX]
        clear hX
        have H5 : Hid (X.heap[wq.heap.size]? = some (.cells #[.int .i64 p.v, .string p.fn, .slice a5 p.args.length c5] 32 (0, 0)) ∧ X.heap[(wq.heap.size + 1)]? = some (.cells #[.int .i64 t.v, .string t.fn, .slice a6 t.args.length c6] 32 (0, 0)) ∧ Below wq.heap.size wq X) := ⟨hx0, hx1, hbX⟩
        obtain ⟨⟨q0, q1, q2⟩, _⟩ := box_facts hx0
        obtain ⟨⟨r0, r1, r2⟩, _⟩ := box_facts hx1
        have l5x : wq.heap.size < X.heap.size := by omega
        have l6x : (wq.heap.size + 1) < X.heap.size := by omega
        have lmx : Bm < X.heap.size := by have := HL.out.only.size; omega
        have cX : X.cell? ⟨Bm, 0, none⟩ = some (.map (some bm)) := kc hbX (by have := HL.out.only.size; omega) HA.out.2.2.2.2.1
        have huv := (uvar_any p (.slice a5 p.args.length c5) X ⟨_, _, _, rfl⟩).mono (R' := fun e w' => e = .returned (.bool (uvar p)) ∧ Below X.heap.size X w') (fun e w' h => ⟨h.1, by rw [h.2]; exact below_box X _⟩)
        have hkk : mtot (qs.map Pr.ts) + 1 < gk := by
          have h1 : mtot ((qs ++ [((p, Value.slice a5 p.args.length c5), (t, Value.slice a6 t.args.length c6))]).map Pr.ts) = mtot (qs.map Pr.ts) + p.nn := mtot_snoc _ _
          have := p.nn_pos
          omega
        have hkn : mtot (qs.map Pr.ts) + p.nn < gk := by
          have h1 : mtot ((qs ++ [((p, Value.slice a5 p.args.length c5), (t, Value.slice a6 t.args.length c6))]).map Pr.ts) = mtot (qs.map Pr.ts) + p.nn := mtot_snoc _ _
          omega
        have HKK : Hid (mtot (qs.map Pr.ts) + 1 < gk ∧ mtot (qs.map Pr.ts) + p.nn < gk) := ⟨hkk, hkn⟩
        clear hx0 hx1 hbX x0 x1 x2 x3 x4 x5 n0 n1 n2 n3 n4 n5 hk hkk hkn
        rcases mrun_inv HL.out.tail.1 with ⟨hv, hτ, hrun⟩ | ⟨hv, hτ, hrun⟩ | ⟨hv, ⟨t', hτ, hne⟩, hres⟩ | ⟨hv, hf, hl, hrun⟩ | ⟨hv, hf, hres⟩
        · have HC : Hid (∀ X1, Below wq.heap.size wq X1 → Calls Tryz.prog 87 #[.map (some bm), .int .i64 p.v, tval t (.slice a6 t.args.length c6)] X1 fun e W' => e = .returned (.tuple #[]) ∧ LI w0 w bm N res qs (σ.put p.v t (.slice a6 t.args.length c6)) (n + 1) (.slice (some ⟨g, 0, none⟩) m cap) W') := fun X1 h1 => (stand_new σ bm n p.v t a6 t.args.length c6 X1 (HL.out.map.same (h1.block bm HL.out.map.lt)) (by have := HL.out.tot; omega) (fit_shape HA.out.2.2.1 hv) (ta_none hτ)).mono (fun e W' h => ⟨h.1, HL.out.var HA.out.2.2.2.2.2 HR.out hbm ((Only.of_below (B := [bm]) h1).trans h.2.2 (fun r hr => .inl hr)) h.2.1 (Nat.le_refl _) hv hrun⟩)
          rw [hv] at huv
          clear hτ hrun hv
          go_wp2_with (first
            | (go_at_call 87; refine hc.mono ?_; rintro e W' ⟨rfl, HE⟩; have HE' : Hid (LI w0 w bm N res qs (σ.put p.v t (.slice a6 t.args.length c6)) (n + 1) (.slice (some ⟨g, 0, none⟩) m cap) W') := HE; clear HE hc)
            | (go_at_call 86; refine huv.mono ?_; rintro e X1 ⟨rfl, hb1⟩; have k0 := kc hb1 l5x q0; have k1 := kc hb1 l5x q1; have k2 := kc hb1 l5x q2; have k3 := kc hb1 l6x r0; have k4 := kc hb1 l6x r1; have k5 := kc hb1 l6x r2; have k6 := kc hb1 lmx cX; have hbw1 : Hid (Below wq.heap.size wq X1) := H5.out.2.2.trans (hb1.mono (by omega)); have hc := HC.out X1 hbw1.out; clear hb1))
          go_roundg (mtot (qs.map Pr.ts) + 1)
          case measure => exact HKK.out.1
          case rel => exact ⟨_, _, _, HE'.out, Nat.lt_succ_self _⟩
        · obtain ⟨sl, hsl⟩ := ta_some hτ
          have HC : Hid (∀ X1, Below wq.heap.size wq X1 → Calls Tryz.prog 87 #[.map (some bm), .int .i64 p.v, tval t (.slice a6 t.args.length c6)] X1 fun e W' => e = .returned (.tuple #[]) ∧ LI w0 w bm N res qs (σ.put p.v t (.slice a6 t.args.length c6)) n (.slice (some ⟨g, 0, none⟩) m cap) W') := fun X1 h1 => (stand_same σ bm n p.v t t sl (.slice a6 t.args.length c6) X1 (HL.out.map.same (h1.block bm HL.out.map.lt)) (by have := HL.out.tot; omega) (fit_shape HA.out.2.2.1 hv) hsl (ArgsAt.keep (HA.out.2.2.2.1.trans (h1.mono HA.out.2.2.2.1.size)) (Nat.le_refl _) (HL.out.sub _ _ _ hsl).1) (ArgsAt.keep (HA.out.2.2.2.1.trans (h1.mono HA.out.2.2.2.1.size)) (Nat.le_refl _) HA.out.2.1) rfl).mono (fun e W' h => ⟨h.1, HL.out.var HA.out.2.2.2.2.2 HR.out hbm ((Only.of_below (B := [bm]) h1).trans h.2.2 (fun r hr => .inl hr)) h.2.1 (Nat.le_succ _) hv hrun⟩)
          clear hsl
          rw [hv] at huv
          clear hτ hrun hv
          go_wp2_with (first
            | (go_at_call 87; refine hc.mono ?_; rintro e W' ⟨rfl, HE⟩; have HE' : Hid (LI w0 w bm N res qs (σ.put p.v t (.slice a6 t.args.length c6)) n (.slice (some ⟨g, 0, none⟩) m cap) W') := HE; clear HE hc)
            | (go_at_call 86; refine huv.mono ?_; rintro e X1 ⟨rfl, hb1⟩; have k0 := kc hb1 l5x q0; have k1 := kc hb1 l5x q1; have k2 := kc hb1 l5x q2; have k3 := kc hb1 l6x r0; have k4 := kc hb1 l6x r1; have k5 := kc hb1 l6x r2; have k6 := kc hb1 lmx cX; have hbw1 : Hid (Below wq.heap.size wq X1) := H5.out.2.2.trans (hb1.mono (by omega)); have hc := HC.out X1 hbw1.out; clear hb1))
          go_roundg (mtot (qs.map Pr.ts) + 1)
          case measure => exact HKK.out.1
          case rel => exact ⟨_, _, _, HE'.out, Nat.lt_succ_self _⟩
        · obtain ⟨sl, hsl⟩ := ta_some hτ
          subst hres
          have HC : Hid (∀ X1, Below wq.heap.size wq X1 → Calls Tryz.prog 87 #[.map (some bm), .int .i64 p.v, tval t (.slice a6 t.args.length c6)] X1 fun e W' => e = .panicked misfit ∧ Only [bm] w W') := fun X1 h1 => (stand_no σ bm n p.v t t' sl (.slice a6 t.args.length c6) X1 (HL.out.map.same (h1.block bm HL.out.map.lt)) (fit_shape HA.out.2.2.1 hv) hsl (ArgsAt.keep (HA.out.2.2.2.1.trans (h1.mono HA.out.2.2.2.1.size)) (Nat.le_refl _) (HL.out.sub _ _ _ hsl).1) (ArgsAt.keep (HA.out.2.2.2.1.trans (h1.mono HA.out.2.2.2.1.size)) (Nat.le_refl _) HA.out.2.1) hne).mono (fun e W' h => ⟨h.1, HL.out.only.trans (Only.of_below (B := [bm]) (h1.trans (h.2.mono h1.size))) (fun r hr => .inl hr)⟩)
          clear hsl
          rw [hv] at huv
          clear hτ hne hv
          go_wp2_with (first
            | (go_at_call 87; refine hc.mono ?_; rintro e W' ⟨rfl, HE⟩)
            | (go_at_call 86; refine huv.mono ?_; rintro e X1 ⟨rfl, hb1⟩; have k0 := kc hb1 l5x q0; have k1 := kc hb1 l5x q1; have k2 := kc hb1 l5x q2; have k3 := kc hb1 l6x r0; have k4 := kc hb1 l6x r1; have k5 := kc hb1 l6x r2; have k6 := kc hb1 lmx cX; have hbw1 : Hid (Below wq.heap.size wq X1) := H5.out.2.2.trans (hb1.mono (by omega)); have hc := HC.out X1 hbw1.out; clear hb1))
          exact ⟨rfl, HE, rfl⟩
        · have HC : Hid (∀ X1, Below wq.heap.size wq X1 → X1.heap[wq.heap.size]? = some (.cells #[.int .i64 p.v, .string p.fn, .slice a5 p.args.length c5] 32 (0, 0)) → X1.heap[(wq.heap.size + 1)]? = some (.cells #[.int .i64 t.v, .string t.fn, .slice a6 t.args.length c6] 32 (0, 0)) → Calls Tryz.prog 88 #[tval p (.slice a5 p.args.length c5), tval t (.slice a6 t.args.length c6)] X1 fun e W' => e = .returned (.tuple #[]) ∧ PI w0 w bm n qs p t σ wq.heap.size (wq.heap.size + 1) (.slice a5 p.args.length c5) (.slice a6 t.args.length c6) 0 [] (.slice (some ⟨g, 0, none⟩) m cap) W') := fun X1 h1 e5 e6 => (must_ok p t a5 a6 c5 c6 X1 hf hl).mono (fun e W' h => ⟨h.1, PI.first HL.out HA.out.2.2.2.2.2 HR.out (h1.trans (h.2.mono h1.size)) (Nat.le_refl _) (Nat.le_succ _) ((h.2.block _ (Array.getElem?_eq_some_iff.1 e5).1).trans e5) ((h.2.block _ (Array.getElem?_eq_some_iff.1 e6).1).trans e6)⟩)
          have HF : Hid (p.args.length = t.args.length ∧ uvar p = false ∧ MRun ((p.args.zip t.args).reverse ++ (qs.map Pr.ts).reverse) σ.ta res) := ⟨hl, hv, hrun⟩
          rw [hv] at huv
          clear hf hv hl hrun
          go_wp2_with (first
            | (go_at_call 88; refine hc.mono ?_; rintro e X2 ⟨rfl, HE⟩; obtain ⟨⟨j0, j1, j2⟩, _⟩ := box_facts HE.b5; have HP0 : Hid (PI w0 w bm n qs p t σ wq.heap.size (wq.heap.size + 1) (.slice a5 p.args.length c5) (.slice a6 t.args.length c6) 0 [] (.slice (some ⟨g, 0, none⟩) m cap) X2) := HE; clear HE hc)
            | (go_at_call 86; refine huv.mono ?_; rintro e X1 ⟨rfl, hb1⟩; have k0 := kc hb1 l5x q0; have k1 := kc hb1 l5x q1; have k2 := kc hb1 l5x q2; have k3 := kc hb1 l6x r0; have k4 := kc hb1 l6x r1; have k5 := kc hb1 l6x r2; have k6 := kc hb1 lmx cX; have hbw1 : Hid (Below wq.heap.size wq X1) := H5.out.2.2.trans (hb1.mono (by omega)); have hc := HC.out X1 hbw1.out ((hb1.block _ l5x).trans H5.out.1) ((hb1.block _ l6x).trans H5.out.2.1); clear hb1))
          go_loopw [3, 45] (fun v i wr2 => ∃ (j : Nat) (zs : List Pr), i = .int .i64 j ∧ j ≤ p.args.length ∧ Hid (PI w0 w bm n qs p t σ wq.heap.size (wq.heap.size + 1) (.slice a5 p.args.length c5) (.slice a6 t.args.length c6) j zs v wr2)) (fun _ i _ => p.args.length - (intOf i).toNat)
          case atStart => exact ⟨0, [], rfl, Nat.zero_le _, HP0.out⟩
          case round =>
            obtain ⟨j, zs, rfl, hj, HP⟩ := hrel
            obtain ⟨va, vc, hv⟩ := rowB_form HP.out.row
            subst hv
            by_cases hlt : j < p.args.length
            · have hw2 : Below w0.heap.size w0 wr := H0.out.1.trans (HP.out.only.below H0.out.1.size (fun r hr => by simp at hr; subst hr; exact H0.out.2.1))
              have hlt' : j < t.args.length := by have := HF.out.1; omega
              obtain ⟨b, o, s, e1, hbl, c0, c1, c2, hs⟩ := HA.out.1.nth hlt
              obtain ⟨b', o', s', e2, hbl', d0, d1, d2, hs'⟩ := HA.out.2.1.nth hlt'
              cases e1
              cases e2
              have f0 := kc hw2 hbl c0
              have f1 := kc hw2 hbl c1
              have f2 := kc hw2 hbl c2
              have g0 := kc hw2 hbl' d0
              have g1 := kc hw2 hbl' d1
              have g2 := kc hw2 hbl' d2
              obtain ⟨⟨v0, v1, v2⟩, _⟩ := box_facts HP.out.b6
              obtain ⟨pj, hpj⟩ : ∃ y, p.args[j] = y := ⟨_, rfl⟩
              obtain ⟨tj, htj⟩ : ∃ y, t.args[j] = y := ⟨_, rfl⟩
              obtain ⟨sa, sc, rfl, _, _⟩ := hs.slice
              obtain ⟨sa', sc', rfl, _, _⟩ := hs'.slice
              have hlen2 : qs.length + j ≤ 2147483648 := by
                have h1 := HL.out.tail.2
                have h2 := mtot_ge qs
                have h3 := args_nn p
                omega
              have HS : Hid (ArgsAt w0 (.slice sa pj.args.length sc) pj.args ∧ ArgsAt w0 (.slice sa' tj.args.length sc') tj.args ∧ p.args[j] = pj ∧ t.args[j] = tj) := ⟨by rw [← hpj]; exact hs, by rw [← htj]; exact hs', hpj, htj⟩
              have HROW : Hid (∀ Y : World, Below wr.heap.size wr Y → Y.ownsRow w.heap.size 142 6 (.slice va (qs.length + j) vc) (qs.length + j) (flat6 (qs ++ zs))) := fun Y hY => row6_keep HP.out.row (fun g' e => hY.block g' (HP.out.row.lt g' e).2)
              simp only [hpj] at f0 f1 f2
              simp only [htj] at g0 g1 g2
              have jt : (j : Int) < (t.args.length : Int) := by omega
              have jp : (j : Int) < (p.args.length : Int) := by omega
              have j00 : (0 : Int) ≤ (j : Int) := Int.natCast_nonneg j
              have hsz2 : Hid (w.heap.size ≤ wr.heap.size) := HP.out.only.size
              clear hs hs' hpj htj c0 c1 c2 d0 d1 d2 hw2
              obtain ⟨i98, hi0, hz0, hz1, hz2⟩ := info_parts Tryz.info142
              obtain ⟨⟨y0, y1, y2⟩, _⟩ := box_facts (MapKept.heap_alloc wr (.cells #[.int .i64 pj.v, .string pj.fn, .slice sa pj.args.length sc] 32)).1
              have hyb := below_box wr (.cells #[.int .i64 pj.v, .string pj.fn, .slice sa pj.args.length sc] 32)
              have g0' := kc hyb (World.block_lt_of_cell? wr _ g0) g0
              have g1' := kc hyb (World.block_lt_of_cell? wr _ g1) g1
              have g2' := kc hyb (World.block_lt_of_cell? wr _ g2) g2
              have v2' := kc hyb (World.block_lt_of_cell? wr _ v2) v2
              have HYB : Hid (Below wr.heap.size wr (wr.alloc (.cells #[.int .i64 pj.v, .string pj.fn, .slice sa pj.args.length sc] 32))) := hyb
              clear hyb
              go_wp2
              generalize wr.alloc (.cells #[.int .i64 pj.v, .string pj.fn, .slice sa pj.args.length sc] 32) = Y at *
              go_region_law (refine step_append_own _ rfl (.tmp 50) (.tmp 58) 143 rfl w.heap.size 142 i98 _ 6 96 Tryz.underlying143 hi0 hz0 hz1 hz2 rfl (by decide) (.slice va (qs.length + j) vc) (qs.length + j) (flat6 (qs ++ zs)) rfl (HROW.out _ (HYB.out.trans ((below_box2x Y _).mono HYB.out.size))) ⟨Y.heap.size, 0, none⟩ 1 1 (cells6 ((pj, .slice sa pj.args.length sc), (tj, .slice sa' tj.args.length sc'))) rfl rfl (lit6 Y _ _ _ _ _ _ 142) (one6 _ _ _ _ _ _ _ _) (by unfold maxLen; omega) (by omega) (by have := hsz2.out; have := HYB.out.size; simp; omega) ?_; intro v' w6 hrow6 hg6 hb6; obtain ⟨a6x, c6x, rfl⟩ := rowB_form hrow6)
              all_goals (
                have HE : Hid (PI w0 w bm n qs p t σ wq.heap.size (wq.heap.size + 1) (.slice (some ⟨b, o, none⟩) p.args.length c5) (.slice (some ⟨b', o', none⟩) t.args.length c6) (j + 1) (zs ++ [((pj, .slice sa pj.args.length sc), (tj, .slice sa' tj.args.length sc'))]) (.slice a6x (qs.length + j + 1) c6x) w6) := HP.out.more hbm hlt hlt' (HYB.out.trans ((below_box2x Y _).mono HYB.out.size)) HS.out.2.2.1 HS.out.2.2.2 _ _ HS.out.1 HS.out.2.1 hrow6 hg6 hb6
                clear hrow6 hg6 hb6
                go_wp2
                go_roundw
                case rel => exact ⟨j + 1, _, by go_num, by omega, HE.out⟩
                case measure => simp [intOf]; omega)
            · have hje : j = p.args.length := by omega
              have HE := PI.last HL.out HP.out hje HF.out.1 HF.out.2.1 HF.out.2.2
              have HE' : Hid (LI w0 w bm N res (qs ++ zs) σ n (.slice va (qs.length + j) vc) wr ∧ mtot ((qs ++ zs).map Pr.ts) + 1 = mtot (qs.map Pr.ts) + p.nn) := HE
              clear HE hje
              go_wp2
              go_roundg (mtot (qs.map Pr.ts) + p.nn)
              case measure => exact HKK.out.2
              case rel => exact ⟨_, _, _, HE'.out.1, by have := HE'.out.2; omega⟩
        · subst hres
          have HC : Hid (∀ X1, Below wq.heap.size wq X1 → Calls Tryz.prog 88 #[tval p (.slice a5 p.args.length c5), tval t (.slice a6 t.args.length c6)] X1 fun e W' => e = .panicked misfit ∧ Only [bm] w W') := fun X1 h1 => (must_no p t a5 a6 c5 c6 X1 hf).mono (fun e W' h => ⟨h.1, HL.out.only.trans (Only.of_below (B := [bm]) (h1.trans (h.2.mono h1.size))) (fun r hr => .inl hr)⟩)
          rw [hv] at huv
          clear hf hv
          go_wp2_with (first
            | (go_at_call 88; refine hc.mono ?_; rintro e W' ⟨rfl, HE⟩)
            | (go_at_call 86; refine huv.mono ?_; rintro e X1 ⟨rfl, hb1⟩; have k0 := kc hb1 l5x q0; have k1 := kc hb1 l5x q1; have k2 := kc hb1 l5x q2; have k3 := kc hb1 l6x r0; have k4 := kc hb1 l6x r1; have k5 := kc hb1 l6x r2; have k6 := kc hb1 lmx cX; have hbw1 : Hid (Below wq.heap.size wq X1) := H5.out.2.2.trans (hb1.mono (by omega)); have hc := HC.out X1 hbw1.out; clear hb1))
          exact ⟨rfl, HE, rfl⟩
      · obtain ⟨X, hX⟩ : ∃ X, ((wq.alloc (.cells #[.int .i64 t.v, .string t.fn, .slice a6 t.args.length c6] 32)).alloc (.cells #[.int .i64 p.v, .string p.fn, .slice a5 p.args.length c5] 32)).drew = X := ⟨_, rfl⟩
        have hbX : Below wq.heap.size wq X := by rw [← hX]; exact (below_box2 wq _ _).drew
        have hx0 : X.heap[wq.heap.size]? = some (.cells #[.int .i64 t.v, .string t.fn, .slice a6 t.args.length c6] 32 (0, 0)) := by
          rw [← hX]
          exact (below_box (wq.alloc (.cells #[.int .i64 t.v, .string t.fn, .slice a6 t.args.length c6] 32)) (.cells #[.int .i64 p.v, .string p.fn, .slice a5 p.args.length c5] 32)).block _ (by simp) |>.trans (MapKept.heap_alloc wq (.cells #[.int .i64 t.v, .string t.fn, .slice a6 t.args.length c6] 32)).1
        have hx1 : X.heap[wq.heap.size + 1]? = some (.cells #[.int .i64 p.v, .string p.fn, .slice a5 p.args.length c5] 32 (0, 0)) := by
          rw [← hX]
          have := (MapKept.heap_alloc (wq.alloc (.cells #[.int .i64 t.v, .string t.fn, .slice a6 t.args.length c6] 32)) (.cells #[.int .i64 p.v, .string p.fn, .slice a5 p.args.length c5] 32)).1
          rw [World.size_alloc] at this
          exact this
        have hXs : X.heap.size = wq.heap.size + 2 := by rw [← hX]; simp [World.drew]
        rw [hX]
        clear hX
        have H5 : Hid (X.heap[(wq.heap.size + 1)]? = some (.cells #[.int .i64 p.v, .string p.fn, .slice a5 p.args.length c5] 32 (0, 0)) ∧ X.heap[wq.heap.size]? = some (.cells #[.int .i64 t.v, .string t.fn, .slice a6 t.args.length c6] 32 (0, 0)) ∧ Below wq.heap.size wq X) := ⟨hx1, hx0, hbX⟩
        obtain ⟨⟨q0, q1, q2⟩, _⟩ := box_facts hx1
        obtain ⟨⟨r0, r1, r2⟩, _⟩ := box_facts hx0
        have l5x : (wq.heap.size + 1) < X.heap.size := by omega
        have l6x : wq.heap.size < X.heap.size := by omega
        have lmx : Bm < X.heap.size := by have := HL.out.only.size; omega
        have cX : X.cell? ⟨Bm, 0, none⟩ = some (.map (some bm)) := kc hbX (by have := HL.out.only.size; omega) HA.out.2.2.2.2.1
        have huv := (uvar_any p (.slice a5 p.args.length c5) X ⟨_, _, _, rfl⟩).mono (R' := fun e w' => e = .returned (.bool (uvar p)) ∧ Below X.heap.size X w') (fun e w' h => ⟨h.1, by rw [h.2]; exact below_box X _⟩)
        have hkk : mtot (qs.map Pr.ts) + 1 < gk := by
          have h1 : mtot ((qs ++ [((p, Value.slice a5 p.args.length c5), (t, Value.slice a6 t.args.length c6))]).map Pr.ts) = mtot (qs.map Pr.ts) + p.nn := mtot_snoc _ _
          have := p.nn_pos
          omega
        have hkn : mtot (qs.map Pr.ts) + p.nn < gk := by
          have h1 : mtot ((qs ++ [((p, Value.slice a5 p.args.length c5), (t, Value.slice a6 t.args.length c6))]).map Pr.ts) = mtot (qs.map Pr.ts) + p.nn := mtot_snoc _ _
          omega
        have HKK : Hid (mtot (qs.map Pr.ts) + 1 < gk ∧ mtot (qs.map Pr.ts) + p.nn < gk) := ⟨hkk, hkn⟩
        clear hx0 hx1 hbX x0 x1 x2 x3 x4 x5 n0 n1 n2 n3 n4 n5 hk hkk hkn
        rcases mrun_inv HL.out.tail.1 with ⟨hv, hτ, hrun⟩ | ⟨hv, hτ, hrun⟩ | ⟨hv, ⟨t', hτ, hne⟩, hres⟩ | ⟨hv, hf, hl, hrun⟩ | ⟨hv, hf, hres⟩
        · have HC : Hid (∀ X1, Below wq.heap.size wq X1 → Calls Tryz.prog 87 #[.map (some bm), .int .i64 p.v, tval t (.slice a6 t.args.length c6)] X1 fun e W' => e = .returned (.tuple #[]) ∧ LI w0 w bm N res qs (σ.put p.v t (.slice a6 t.args.length c6)) (n + 1) (.slice (some ⟨g, 0, none⟩) m cap) W') := fun X1 h1 => (stand_new σ bm n p.v t a6 t.args.length c6 X1 (HL.out.map.same (h1.block bm HL.out.map.lt)) (by have := HL.out.tot; omega) (fit_shape HA.out.2.2.1 hv) (ta_none hτ)).mono (fun e W' h => ⟨h.1, HL.out.var HA.out.2.2.2.2.2 HR.out hbm ((Only.of_below (B := [bm]) h1).trans h.2.2 (fun r hr => .inl hr)) h.2.1 (Nat.le_refl _) hv hrun⟩)
          rw [hv] at huv
          clear hτ hrun hv
          go_wp2_with (first
            | (go_at_call 87; refine hc.mono ?_; rintro e W' ⟨rfl, HE⟩; have HE' : Hid (LI w0 w bm N res qs (σ.put p.v t (.slice a6 t.args.length c6)) (n + 1) (.slice (some ⟨g, 0, none⟩) m cap) W') := HE; clear HE hc)
            | (go_at_call 86; refine huv.mono ?_; rintro e X1 ⟨rfl, hb1⟩; have k0 := kc hb1 l5x q0; have k1 := kc hb1 l5x q1; have k2 := kc hb1 l5x q2; have k3 := kc hb1 l6x r0; have k4 := kc hb1 l6x r1; have k5 := kc hb1 l6x r2; have k6 := kc hb1 lmx cX; have hbw1 : Hid (Below wq.heap.size wq X1) := H5.out.2.2.trans (hb1.mono (by omega)); have hc := HC.out X1 hbw1.out; clear hb1))
          go_roundg (mtot (qs.map Pr.ts) + 1)
          case measure => exact HKK.out.1
          case rel => exact ⟨_, _, _, HE'.out, Nat.lt_succ_self _⟩
        · obtain ⟨sl, hsl⟩ := ta_some hτ
          have HC : Hid (∀ X1, Below wq.heap.size wq X1 → Calls Tryz.prog 87 #[.map (some bm), .int .i64 p.v, tval t (.slice a6 t.args.length c6)] X1 fun e W' => e = .returned (.tuple #[]) ∧ LI w0 w bm N res qs (σ.put p.v t (.slice a6 t.args.length c6)) n (.slice (some ⟨g, 0, none⟩) m cap) W') := fun X1 h1 => (stand_same σ bm n p.v t t sl (.slice a6 t.args.length c6) X1 (HL.out.map.same (h1.block bm HL.out.map.lt)) (by have := HL.out.tot; omega) (fit_shape HA.out.2.2.1 hv) hsl (ArgsAt.keep (HA.out.2.2.2.1.trans (h1.mono HA.out.2.2.2.1.size)) (Nat.le_refl _) (HL.out.sub _ _ _ hsl).1) (ArgsAt.keep (HA.out.2.2.2.1.trans (h1.mono HA.out.2.2.2.1.size)) (Nat.le_refl _) HA.out.2.1) rfl).mono (fun e W' h => ⟨h.1, HL.out.var HA.out.2.2.2.2.2 HR.out hbm ((Only.of_below (B := [bm]) h1).trans h.2.2 (fun r hr => .inl hr)) h.2.1 (Nat.le_succ _) hv hrun⟩)
          clear hsl
          rw [hv] at huv
          clear hτ hrun hv
          go_wp2_with (first
            | (go_at_call 87; refine hc.mono ?_; rintro e W' ⟨rfl, HE⟩; have HE' : Hid (LI w0 w bm N res qs (σ.put p.v t (.slice a6 t.args.length c6)) n (.slice (some ⟨g, 0, none⟩) m cap) W') := HE; clear HE hc)
            | (go_at_call 86; refine huv.mono ?_; rintro e X1 ⟨rfl, hb1⟩; have k0 := kc hb1 l5x q0; have k1 := kc hb1 l5x q1; have k2 := kc hb1 l5x q2; have k3 := kc hb1 l6x r0; have k4 := kc hb1 l6x r1; have k5 := kc hb1 l6x r2; have k6 := kc hb1 lmx cX; have hbw1 : Hid (Below wq.heap.size wq X1) := H5.out.2.2.trans (hb1.mono (by omega)); have hc := HC.out X1 hbw1.out; clear hb1))
          go_roundg (mtot (qs.map Pr.ts) + 1)
          case measure => exact HKK.out.1
          case rel => exact ⟨_, _, _, HE'.out, Nat.lt_succ_self _⟩
        · obtain ⟨sl, hsl⟩ := ta_some hτ
          subst hres
          have HC : Hid (∀ X1, Below wq.heap.size wq X1 → Calls Tryz.prog 87 #[.map (some bm), .int .i64 p.v, tval t (.slice a6 t.args.length c6)] X1 fun e W' => e = .panicked misfit ∧ Only [bm] w W') := fun X1 h1 => (stand_no σ bm n p.v t t' sl (.slice a6 t.args.length c6) X1 (HL.out.map.same (h1.block bm HL.out.map.lt)) (fit_shape HA.out.2.2.1 hv) hsl (ArgsAt.keep (HA.out.2.2.2.1.trans (h1.mono HA.out.2.2.2.1.size)) (Nat.le_refl _) (HL.out.sub _ _ _ hsl).1) (ArgsAt.keep (HA.out.2.2.2.1.trans (h1.mono HA.out.2.2.2.1.size)) (Nat.le_refl _) HA.out.2.1) hne).mono (fun e W' h => ⟨h.1, HL.out.only.trans (Only.of_below (B := [bm]) (h1.trans (h.2.mono h1.size))) (fun r hr => .inl hr)⟩)
          clear hsl
          rw [hv] at huv
          clear hτ hne hv
          go_wp2_with (first
            | (go_at_call 87; refine hc.mono ?_; rintro e W' ⟨rfl, HE⟩)
            | (go_at_call 86; refine huv.mono ?_; rintro e X1 ⟨rfl, hb1⟩; have k0 := kc hb1 l5x q0; have k1 := kc hb1 l5x q1; have k2 := kc hb1 l5x q2; have k3 := kc hb1 l6x r0; have k4 := kc hb1 l6x r1; have k5 := kc hb1 l6x r2; have k6 := kc hb1 lmx cX; have hbw1 : Hid (Below wq.heap.size wq X1) := H5.out.2.2.trans (hb1.mono (by omega)); have hc := HC.out X1 hbw1.out; clear hb1))
          exact ⟨rfl, HE, rfl⟩
        · have HC : Hid (∀ X1, Below wq.heap.size wq X1 → X1.heap[(wq.heap.size + 1)]? = some (.cells #[.int .i64 p.v, .string p.fn, .slice a5 p.args.length c5] 32 (0, 0)) → X1.heap[wq.heap.size]? = some (.cells #[.int .i64 t.v, .string t.fn, .slice a6 t.args.length c6] 32 (0, 0)) → Calls Tryz.prog 88 #[tval p (.slice a5 p.args.length c5), tval t (.slice a6 t.args.length c6)] X1 fun e W' => e = .returned (.tuple #[]) ∧ PI w0 w bm n qs p t σ (wq.heap.size + 1) wq.heap.size (.slice a5 p.args.length c5) (.slice a6 t.args.length c6) 0 [] (.slice (some ⟨g, 0, none⟩) m cap) W') := fun X1 h1 e5 e6 => (must_ok p t a5 a6 c5 c6 X1 hf hl).mono (fun e W' h => ⟨h.1, PI.first HL.out HA.out.2.2.2.2.2 HR.out (h1.trans (h.2.mono h1.size)) (Nat.le_succ _) (Nat.le_refl _) ((h.2.block _ (Array.getElem?_eq_some_iff.1 e5).1).trans e5) ((h.2.block _ (Array.getElem?_eq_some_iff.1 e6).1).trans e6)⟩)
          have HF : Hid (p.args.length = t.args.length ∧ uvar p = false ∧ MRun ((p.args.zip t.args).reverse ++ (qs.map Pr.ts).reverse) σ.ta res) := ⟨hl, hv, hrun⟩
          rw [hv] at huv
          clear hf hv hl hrun
          go_wp2_with (first
            | (go_at_call 88; refine hc.mono ?_; rintro e X2 ⟨rfl, HE⟩; obtain ⟨⟨j0, j1, j2⟩, _⟩ := box_facts HE.b5; have HP0 : Hid (PI w0 w bm n qs p t σ (wq.heap.size + 1) wq.heap.size (.slice a5 p.args.length c5) (.slice a6 t.args.length c6) 0 [] (.slice (some ⟨g, 0, none⟩) m cap) X2) := HE; clear HE hc)
            | (go_at_call 86; refine huv.mono ?_; rintro e X1 ⟨rfl, hb1⟩; have k0 := kc hb1 l5x q0; have k1 := kc hb1 l5x q1; have k2 := kc hb1 l5x q2; have k3 := kc hb1 l6x r0; have k4 := kc hb1 l6x r1; have k5 := kc hb1 l6x r2; have k6 := kc hb1 lmx cX; have hbw1 : Hid (Below wq.heap.size wq X1) := H5.out.2.2.trans (hb1.mono (by omega)); have hc := HC.out X1 hbw1.out ((hb1.block _ l5x).trans H5.out.1) ((hb1.block _ l6x).trans H5.out.2.1); clear hb1))
          go_loopw [3, 45] (fun v i wr2 => ∃ (j : Nat) (zs : List Pr), i = .int .i64 j ∧ j ≤ p.args.length ∧ Hid (PI w0 w bm n qs p t σ (wq.heap.size + 1) wq.heap.size (.slice a5 p.args.length c5) (.slice a6 t.args.length c6) j zs v wr2)) (fun _ i _ => p.args.length - (intOf i).toNat)
          case atStart => exact ⟨0, [], rfl, Nat.zero_le _, HP0.out⟩
          case round =>
            obtain ⟨j, zs, rfl, hj, HP⟩ := hrel
            obtain ⟨va, vc, hv⟩ := rowB_form HP.out.row
            subst hv
            by_cases hlt : j < p.args.length
            · have hw2 : Below w0.heap.size w0 wr := H0.out.1.trans (HP.out.only.below H0.out.1.size (fun r hr => by simp at hr; subst hr; exact H0.out.2.1))
              have hlt' : j < t.args.length := by have := HF.out.1; omega
              obtain ⟨b, o, s, e1, hbl, c0, c1, c2, hs⟩ := HA.out.1.nth hlt
              obtain ⟨b', o', s', e2, hbl', d0, d1, d2, hs'⟩ := HA.out.2.1.nth hlt'
              cases e1
              cases e2
              have f0 := kc hw2 hbl c0
              have f1 := kc hw2 hbl c1
              have f2 := kc hw2 hbl c2
              have g0 := kc hw2 hbl' d0
              have g1 := kc hw2 hbl' d1
              have g2 := kc hw2 hbl' d2
              obtain ⟨⟨v0, v1, v2⟩, _⟩ := box_facts HP.out.b6
              obtain ⟨pj, hpj⟩ : ∃ y, p.args[j] = y := ⟨_, rfl⟩
              obtain ⟨tj, htj⟩ : ∃ y, t.args[j] = y := ⟨_, rfl⟩
              obtain ⟨sa, sc, rfl, _, _⟩ := hs.slice
              obtain ⟨sa', sc', rfl, _, _⟩ := hs'.slice
              have hlen2 : qs.length + j ≤ 2147483648 := by
                have h1 := HL.out.tail.2
                have h2 := mtot_ge qs
                have h3 := args_nn p
                omega
              have HS : Hid (ArgsAt w0 (.slice sa pj.args.length sc) pj.args ∧ ArgsAt w0 (.slice sa' tj.args.length sc') tj.args ∧ p.args[j] = pj ∧ t.args[j] = tj) := ⟨by rw [← hpj]; exact hs, by rw [← htj]; exact hs', hpj, htj⟩
              have HROW : Hid (∀ Y : World, Below wr.heap.size wr Y → Y.ownsRow w.heap.size 142 6 (.slice va (qs.length + j) vc) (qs.length + j) (flat6 (qs ++ zs))) := fun Y hY => row6_keep HP.out.row (fun g' e => hY.block g' (HP.out.row.lt g' e).2)
              simp only [hpj] at f0 f1 f2
              simp only [htj] at g0 g1 g2
              have jt : (j : Int) < (t.args.length : Int) := by omega
              have jp : (j : Int) < (p.args.length : Int) := by omega
              have j00 : (0 : Int) ≤ (j : Int) := Int.natCast_nonneg j
              have hsz2 : Hid (w.heap.size ≤ wr.heap.size) := HP.out.only.size
              clear hs hs' hpj htj c0 c1 c2 d0 d1 d2 hw2
              obtain ⟨i98, hi0, hz0, hz1, hz2⟩ := info_parts Tryz.info142
              obtain ⟨⟨y0, y1, y2⟩, _⟩ := box_facts (MapKept.heap_alloc wr (.cells #[.int .i64 pj.v, .string pj.fn, .slice sa pj.args.length sc] 32)).1
              have hyb := below_box wr (.cells #[.int .i64 pj.v, .string pj.fn, .slice sa pj.args.length sc] 32)
              have g0' := kc hyb (World.block_lt_of_cell? wr _ g0) g0
              have g1' := kc hyb (World.block_lt_of_cell? wr _ g1) g1
              have g2' := kc hyb (World.block_lt_of_cell? wr _ g2) g2
              have v2' := kc hyb (World.block_lt_of_cell? wr _ v2) v2
              have HYB : Hid (Below wr.heap.size wr (wr.alloc (.cells #[.int .i64 pj.v, .string pj.fn, .slice sa pj.args.length sc] 32))) := hyb
              clear hyb
              go_wp2
              generalize wr.alloc (.cells #[.int .i64 pj.v, .string pj.fn, .slice sa pj.args.length sc] 32) = Y at *
              go_region_law (refine step_append_own _ rfl (.tmp 50) (.tmp 58) 143 rfl w.heap.size 142 i98 _ 6 96 Tryz.underlying143 hi0 hz0 hz1 hz2 rfl (by decide) (.slice va (qs.length + j) vc) (qs.length + j) (flat6 (qs ++ zs)) rfl (HROW.out _ (HYB.out.trans ((below_box2x Y _).mono HYB.out.size))) ⟨Y.heap.size, 0, none⟩ 1 1 (cells6 ((pj, .slice sa pj.args.length sc), (tj, .slice sa' tj.args.length sc'))) rfl rfl (lit6 Y _ _ _ _ _ _ 142) (one6 _ _ _ _ _ _ _ _) (by unfold maxLen; omega) (by omega) (by have := hsz2.out; have := HYB.out.size; simp; omega) ?_; intro v' w6 hrow6 hg6 hb6; obtain ⟨a6x, c6x, rfl⟩ := rowB_form hrow6)
              all_goals (
                have HE : Hid (PI w0 w bm n qs p t σ (wq.heap.size + 1) wq.heap.size (.slice (some ⟨b, o, none⟩) p.args.length c5) (.slice (some ⟨b', o', none⟩) t.args.length c6) (j + 1) (zs ++ [((pj, .slice sa pj.args.length sc), (tj, .slice sa' tj.args.length sc'))]) (.slice a6x (qs.length + j + 1) c6x) w6) := HP.out.more hbm hlt hlt' (HYB.out.trans ((below_box2x Y _).mono HYB.out.size)) HS.out.2.2.1 HS.out.2.2.2 _ _ HS.out.1 HS.out.2.1 hrow6 hg6 hb6
                clear hrow6 hg6 hb6
                go_wp2
                go_roundw
                case rel => exact ⟨j + 1, _, by go_num, by omega, HE.out⟩
                case measure => simp [intOf]; omega)
            · have hje : j = p.args.length := by omega
              have HE := PI.last HL.out HP.out hje HF.out.1 HF.out.2.1 HF.out.2.2
              have HE' : Hid (LI w0 w bm N res (qs ++ zs) σ n (.slice va (qs.length + j) vc) wr ∧ mtot ((qs ++ zs).map Pr.ts) + 1 = mtot (qs.map Pr.ts) + p.nn) := HE
              clear HE hje
              go_wp2
              go_roundg (mtot (qs.map Pr.ts) + p.nn)
              case measure => exact HKK.out.2
              case rel => exact ⟨_, _, _, HE'.out.1, by have := HE'.out.2; omega⟩
        · subst hres
          have HC : Hid (∀ X1, Below wq.heap.size wq X1 → Calls Tryz.prog 88 #[tval p (.slice a5 p.args.length c5), tval t (.slice a6 t.args.length c6)] X1 fun e W' => e = .panicked misfit ∧ Only [bm] w W') := fun X1 h1 => (must_no p t a5 a6 c5 c6 X1 hf).mono (fun e W' h => ⟨h.1, HL.out.only.trans (Only.of_below (B := [bm]) (h1.trans (h.2.mono h1.size))) (fun r hr => .inl hr)⟩)
          rw [hv] at huv
          clear hf hv
          go_wp2_with (first
            | (go_at_call 88; refine hc.mono ?_; rintro e W' ⟨rfl, HE⟩)
            | (go_at_call 86; refine huv.mono ?_; rintro e X1 ⟨rfl, hb1⟩; have k0 := kc hb1 l5x q0; have k1 := kc hb1 l5x q1; have k2 := kc hb1 l5x q2; have k3 := kc hb1 l6x r0; have k4 := kc hb1 l6x r1; have k5 := kc hb1 l6x r2; have k6 := kc hb1 lmx cX; have hbw1 : Hid (Below wq.heap.size wq X1) := H5.out.2.2.trans (hb1.mono (by omega)); have hc := HC.out X1 hbw1.out; clear hb1))
          exact ⟨rfl, HE, rfl⟩

end Go.Proofs.YtijihmncbaoklaaGreat
