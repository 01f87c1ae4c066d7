/-
  KboKeeps: the law's walk.
-/
import Derived.Test.YtcnodgjalkcgiaaLB
namespace Go.Proofs.Ytcnodgjalkcgiaa
open Go.RowKit Go.Maps

theorem argsAt_two {X : World} {s t : T} {ss st : Value} (hs : ArgsAt X ss s.args) (ht : ArgsAt X st t.args) : ArgsAt (X.alloc (.cells #[.int .i64 s.v, .string s.fn, ss, .int .i64 t.v, .string t.fn, st] 28)) (.slice (some ⟨X.heap.size, 0, none⟩) 2 2) [s, t] := by
  have hb := below_box X (.cells #[.int .i64 s.v, .string s.fn, ss, .int .i64 t.v, .string t.fn, st] 28)
  have h : (X.alloc (.cells #[.int .i64 s.v, .string s.fn, ss, .int .i64 t.v, .string t.fn, st] 28)).heap[X.heap.size]? = some (.cells [Value.int .i64 s.v, .string s.fn, ss, .int .i64 t.v, .string t.fn, st].toArray 28 (0, 0)) := (MapKept.heap_alloc X _).1
  refine ArgsAt.mk (some ⟨X.heap.size, 0, none⟩) 2 [s, t] (fun i => if i = 0 then ss else st) (Nat.le_refl _) (by decide) (fun _ => ⟨X.heap.size, 0, by simp, rfl, fun i hi => ?_⟩) (fun i hi => ?_)
  · have hi' : i < 2 := hi
    obtain rfl | rfl : i = 0 ∨ i = 1 := by omega
    · refine ⟨?_, ?_, ?_⟩ <;> rw [cell_of_row _ _ _ _ 28 (0, 0) h] <;> rfl
    · refine ⟨?_, ?_, ?_⟩ <;> rw [cell_of_row _ _ _ _ 28 (0, 0) h] <;> rfl
  · have hi' : i < 2 := hi
    obtain rfl | rfl : i = 0 ∨ i = 1 := by omega
    · exact ArgsAt.keep hb (Nat.le_refl _) hs
    · exact ArgsAt.keep hb (Nat.le_refl _) ht

set_option maxRecDepth 100000 in
set_option maxHeartbeats 8000000 in
theorem keeps_any (g : Sg) (x y : T) (l : List Bd) (vn vw sx sy v : Value) (w : World) (hg : SgAt w g vn vw) (hax : ArgsAt w sx x.args) (hay : ArgsAt w sy y.args) (hbs : BindsAt w v l) (hzx : x.size ≤ 1048576) (hzy : y.size ≤ 1048576) (hzl : ∀ b ∈ l, b.2.size ≤ 1048576) :
    Calls Try.prog 6 #[gval vn vw, tval x sx, tval y sy, v] w fun e w' => e = .returned (.bool true) ∧ Below w.heap.size w w' := by
  obtain ⟨an, cn, rfl, _, _⟩ := hg.ns.slice
  obtain ⟨aw, cw, rfl, _, _⟩ := hg.ws.slice
  obtain ⟨a, ca, rfl, _, _⟩ := hax.slice
  obtain ⟨b, cb, rfl, _, _⟩ := hay.slice
  obtain ⟨d, cd, rfl⟩ := hbs.slice
  have hln := hbs.len
  have hT := tri_made w (.slice an g.ns.length cn) (.slice aw g.ws.length cw) 25 x (.slice a x.args.length ca) y (.slice b y.args.length cb)
  have hC : ∀ X, Tri w (.slice an g.ns.length cn) (.slice aw g.ws.length cw) x (.slice a x.args.length ca) y (.slice b y.args.length cb) X → (X.cell? ⟨w.heap.size, 0, none⟩ = some (.slice an g.ns.length cn) ∧ X.cell? ⟨w.heap.size, 1, none⟩ = some (.slice aw g.ws.length cw)) ∧ (X.cell? ⟨w.heap.size + 1, 0, none⟩ = some (.int .i64 x.v) ∧ X.cell? ⟨w.heap.size + 1, 1, none⟩ = some (.string x.fn) ∧ X.cell? ⟨w.heap.size + 1, 2, none⟩ = some (.slice a x.args.length ca)) ∧ (X.cell? ⟨w.heap.size + 1 + 1, 0, none⟩ = some (.int .i64 y.v) ∧ X.cell? ⟨w.heap.size + 1 + 1, 1, none⟩ = some (.string y.fn) ∧ X.cell? ⟨w.heap.size + 1 + 1, 2, none⟩ = some (.slice b y.args.length cb)) := fun X h => ⟨⟨h.g0, h.g1⟩, ⟨h.a0, h.a1, h.a2⟩, h.b0, h.b1, h.b2⟩
  have h18 : ∀ X, Tri w (.slice an g.ns.length cn) (.slice aw g.ws.length cw) x (.slice a x.args.length ca) y (.slice b y.args.length cb) X → Calls Try.prog 18 #[.slice d l.length cd] X fun e X' => e = .returned (.bool (isSub l)) ∧ Tri w (.slice an g.ns.length cn) (.slice aw g.ws.length cw) x (.slice a x.args.length ca) y (.slice b y.args.length cb) X' := fun X hX => (ris_any l _ X (hbs.keep hX.bel)).mono fun e X' ⟨h1, h2⟩ => ⟨h1, hX.keep h2⟩
  have h19 : ∀ X, Tri w (.slice an g.ns.length cn) (.slice aw g.ws.length cw) x (.slice a x.args.length ca) y (.slice b y.args.length cb) X → Calls Try.prog 19 #[.slice (some ⟨X.heap.size, 0, none⟩) 2 2] (X.alloc (.cells #[.int .i64 x.v, .string x.fn, .slice a x.args.length ca, .int .i64 y.v, .string y.fn, .slice b y.args.length cb] 28)) fun e X' => e = .returned (.bool (smallB [x, y])) ∧ Tri w (.slice an g.ns.length cn) (.slice aw g.ws.length cw) x (.slice a x.args.length ca) y (.slice b y.args.length cb) X' := fun X hX => (small_any [x, y] _ _ (argsAt_two (ArgsAt.keep hX.bel (Nat.le_refl _) hax) (ArgsAt.keep hX.bel (Nat.le_refl _) hay))).mono fun e X' ⟨h1, h2⟩ => ⟨h1, (hX.keep (below_box X _)).keep h2⟩
  have h17 : ∀ X, Tri w (.slice an g.ns.length cn) (.slice aw g.ws.length cw) x (.slice a x.args.length ca) y (.slice b y.args.length cb) X → Calls Try.prog 17 #[] X fun e X' => e = .returned (.bool true) ∧ Tri w (.slice an g.ns.length cn) (.slice aw g.ws.length cw) x (.slice a x.args.length ca) y (.slice b y.args.length cb) X' := fun X hX => (alive_any X).mono fun e X' ⟨h1, h2⟩ => ⟨h1, hX.keep h2⟩
  have hB : ∀ X, Tri w (.slice an g.ns.length cn) (.slice aw g.ws.length cw) x (.slice a x.args.length ca) y (.slice b y.args.length cb) X → Below w.heap.size w X := fun X h => h.bel
  have HP : Hid (SgAt w g (.slice an g.ns.length cn) (.slice aw g.ws.length cw) ∧ ArgsAt w (.slice a x.args.length ca) x.args ∧ ArgsAt w (.slice b y.args.length cb) y.args ∧ BindsAt w (.slice d l.length cd) l ∧ x.size ≤ 1048576 ∧ y.size ≤ 1048576 ∧ ∀ b ∈ l, b.2.size ≤ 1048576) := ⟨hg, hax, hay, hbs, hzx, hzy, hzl⟩
  clear hg hax hay hbs hzx hzy hzl
  obtain ⟨⟨i0, i1⟩, ⟨i2, i3, i4⟩, i5, i6, i7⟩ := hC _ hT
  have HT : Hid (Tri w (.slice an g.ns.length cn) (.slice aw g.ws.length cw) x (.slice a x.args.length ca) y (.slice b y.args.length cb) _) := hT
  clear hT
  cases hsub : isSub l
  · rw [hsub] at h18
    clear hsub
    go_enter Try.func6, Try.ntmps6
    go_wp2_with fail
    refine (h18 _ HT.out).mono ?_
    rintro e W2 ⟨rfl, hT2⟩
    go_wp2_with fail
    refine (h17 _ hT2).mono ?_
    rintro e W3 ⟨rfl, hT3⟩
    go_wp2
    go_ret
    exact ⟨rfl, hB _ hT3⟩
  rw [hsub] at h18
  by_cases h20 : 20 < l.length
  · have e1 : decide ((20 : Int) < (l.length : Int)) = true := decide_eq_true (by omega)
    clear hsub
    go_enter Try.func6, Try.ntmps6
    go_wp2_with fail
    refine (h18 _ HT.out).mono ?_
    rintro e W2 ⟨rfl, hT2⟩
    go_wp2_with fail
    refine (h17 _ hT2).mono ?_
    rintro e W3 ⟨rfl, hT3⟩
    go_wp2
    go_ret
    exact ⟨rfl, hB _ hT3⟩
  have e1 : decide ((20 : Int) < (l.length : Int)) = false := decide_eq_false (by omega)
  cases hsm : smallB [x, y]
  · rw [hsm] at h19
    clear hsub hsm
    go_enter Try.func6, Try.ntmps6
    go_wp2_with fail
    refine (h18 _ HT.out).mono ?_
    rintro e W2 ⟨rfl, hT2⟩
    obtain ⟨⟨j0, j1⟩, ⟨j2, j3, j4⟩, j5, j6, j7⟩ := hC _ hT2
    go_wp2_with fail
    refine (h19 _ hT2).mono ?_
    rintro e W3 ⟨rfl, hT3⟩
    go_wp2_with fail
    refine (h17 _ hT3).mono ?_
    rintro e W4 ⟨rfl, hT4⟩
    go_wp2
    go_ret
    exact ⟨rfl, hB _ hT4⟩
  rw [hsm] at h19
  have HSM : Hid (isSub l = true ∧ smallB [x, y] = true) := ⟨hsub, hsm⟩
  clear hsub hsm
  go_enter Try.func6, Try.ntmps6
  go_wp2_with fail
  refine (h18 _ HT.out).mono ?_
  rintro e W2 ⟨rfl, hT2⟩
  obtain ⟨⟨j0, j1⟩, ⟨j2, j3, j4⟩, j5, j6, j7⟩ := hC _ hT2
  go_wp2_with fail
  refine (h19 _ hT2).mono ?_
  rintro e W3 ⟨rfl, hT3⟩
  have HT3 : Hid (Tri w (.slice an g.ns.length cn) (.slice aw g.ws.length cw) x (.slice a x.args.length ca) y (.slice b y.args.length cb) W3) := hT3
  clear i0 i1 i2 i3 i4 i5 i6 i7 j0 j1 j2 j3 j4 j5 j6 j7 hT2 hT3 HT h18 h19
  go_wp2
  go_loopw [9] (fun vi wr => ∃ i : Nat, vi = .int .i64 i ∧ i ≤ l.length ∧ Hid (∀ j (hj : j < l.length), j < i → smallB [l[j].2] = true) ∧ Hid (Tri w (.slice an g.ns.length cn) (.slice aw g.ws.length cw) x (.slice a x.args.length ca) y (.slice b y.args.length cb) wr)) (fun vi _ => l.length - (intOf vi).toNat)
  case atStart => exact ⟨0, rfl, Nat.zero_le _, fun j _ hj => absurd hj (by omega), HT3⟩
  case round =>
    obtain ⟨i, rfl, hi, HA, HR⟩ := hrel
    by_cases hlt : i < l.length
    · obtain ⟨bb, oo, s, rfl, hX⟩ := (HP.out.2.2.2.1.keep HR.out.bel).nth hlt
      obtain ⟨hl0, c0, c1, c2, c3, hsub⟩ := hX
      have hcall := small_any [l[i].2] _ _ (argsAt_one hsub)
      obtain ⟨sa, sc, rfl, _⟩ := hsub.slice
      have HNx : Hid (smallB [l[i].2] = true → ∀ j (hj : j < l.length), j < i + 1 → smallB [l[j].2] = true) := fun h j hj hji => by
        by_cases ej : j = i
        · subst ej; exact h
        · exact HA.out j hj (by omega)
      have HB1 : Hid (∀ W', Below (wr.alloc (.cells #[.int .i64 l[i].2.v, .string l[i].2.fn, .slice sa l[i].2.args.length sc] 28)).heap.size (wr.alloc (.cells #[.int .i64 l[i].2.v, .string l[i].2.fn, .slice sa l[i].2.args.length sc] 28)) W' → Tri w (.slice an g.ns.length cn) (.slice aw g.ws.length cw) x (.slice a x.args.length ca) y (.slice b y.args.length cb) W') := fun W' h => (HR.out.keep (below_box wr _)).keep h
      obtain ⟨q, hq⟩ : ∃ q, l[i] = q := ⟨_, rfl⟩
      rw [hq] at hcall HNx HB1 c0 c1 c2 c3
      have hi1 : (0 : Int) ≤ (i : Int) := by omega
      have hi2 : (i : Int) < (l.length : Int) := by omega
      clear hsub hq
      cases hq : smallB [q.2]
      · rw [hq] at hcall
        clear HNx hq
        go_wp2_with fail
        refine hcall.mono ?_
        rintro e W4 ⟨rfl, hb4⟩
        go_wp2_with fail
        refine (h17 _ (HB1.out _ hb4)).mono ?_
        rintro e W5 ⟨rfl, hT5⟩
        go_wp2
        go_ret
        exact ⟨rfl, hB _ hT5⟩
      · rw [hq] at hcall
        have HN2 : Hid (∀ j (hj : j < l.length), j < i + 1 → smallB [l[j].2] = true) := HNx.out hq
        clear HNx hq
        go_wp2_with fail
        refine hcall.mono ?_
        rintro e W4 ⟨rfl, hb4⟩
        have HT4 : Hid (Tri w (.slice an g.ns.length cn) (.slice aw g.ws.length cw) x (.slice a x.args.length ca) y (.slice b y.args.length cb) W4) := HB1.out _ hb4
        clear hb4 hcall
        go_wp2
        go_roundw
        case rel => exact ⟨i + 1, by go_num, by omega, HN2, HT4⟩
        case measure => simp [intOf]; omega
    · have HSL : Hid ((∀ n, (img l n).size ≤ 100) ∧ x.size ≤ 100 ∧ y.size ≤ 100) := by
        refine ⟨img_size fun bd hb => ?_, small_of HSM.out.2 (by simp) HP.out.2.2.2.2.1, small_of HSM.out.2 (by simp) HP.out.2.2.2.2.2.1⟩
        obtain ⟨j, hj, rfl⟩ := List.getElem_of_mem hb
        exact small_of (HA.out j hj (by omega)) (by simp) (HP.out.2.2.2.2.2.2 _ (List.getElem_mem hj))
      have hTr := HR.out
      obtain ⟨⟨j0, j1⟩, ⟨j2, j3, j4⟩, j5, j6, j7⟩ := hC _ hTr
      have hap := apply_gen l HSM.out.1 x _ _ wr (HP.out.2.2.2.1.keep hTr.bel) (ArgsAt.keep hTr.bel (Nat.le_refl _) HP.out.2.1)
      clear HA
      go_wp2_with fail
      refine hap.mono ?_
      rintro e W4 ⟨r, ra, rc, k1, rfl, HK1⟩
      have hT4 := (hTr.keep HK1.out.2.1).keep (below_box W4 (tbox r (.slice ra r.args.length rc)))
      obtain ⟨⟨l0, l1⟩, ⟨l2, l3, l4⟩, l5, l6, l7⟩ := hC _ hT4
      obtain ⟨p0, p1, p2⟩ := tbox_cells W4 r (.slice ra r.args.length rc)
      have hap2 := apply_gen l HSM.out.1 y _ _ (W4.alloc (tbox r (.slice ra r.args.length rc))) (HP.out.2.2.2.1.keep hT4.bel) (ArgsAt.keep hT4.bel (Nat.le_refl _) HP.out.2.2.1)
      have HT4 : Hid (Tri w (.slice an g.ns.length cn) (.slice aw g.ws.length cw) x (.slice a x.args.length ca) y (.slice b y.args.length cb) (W4.alloc (tbox r (.slice ra r.args.length rc)))) := hT4
      clear hap hT4 hTr j0 j1 j2 j3 j4 j5 j6 j7
      go_wp2_with fail
      refine hap2.mono ?_
      rintro e W5 ⟨r2, ra2, rc2, k2, rfl, HK2⟩
      have hz4 : W4.heap.size < W5.heap.size := by have := HK2.out.2.1.size; simp at this; omega
      have hT5 := (HT4.out.keep HK2.out.2.1).keep (below_box W5 (tbox r2 (.slice ra2 r2.args.length rc2)))
      have hbb5 := below_box W5 (tbox r2 (.slice ra2 r2.args.length rc2))
      have p0' := kc hbb5 hz4 (kc HK2.out.2.1 (by simp) p0)
      have p1' := kc hbb5 hz4 (kc HK2.out.2.1 (by simp) p1)
      have p2' := kc hbb5 hz4 (kc HK2.out.2.1 (by simp) p2)
      obtain ⟨q0, q1, q2⟩ := tbox_cells W5 r2 (.slice ra2 r2.args.length rc2)
      have h9 := own_any (.slice an g.ns.length cn) (.slice aw g.ws.length cw) ⟨_, _, _, rfl⟩ ⟨_, _, _, rfl⟩ (W5.alloc (tbox r2 (.slice ra2 r2.args.length rc2)))
      have HK2' : Hid (ArgsAt (W5.alloc (tbox r2 (.slice ra2 r2.args.length rc2))) (.slice ra r.args.length rc) r.args ∧ ArgsAt (W5.alloc (tbox r2 (.slice ra2 r2.args.length rc2))) (.slice ra2 r2.args.length rc2) r2.args) := by
        refine ⟨?_, ArgsAt.keep hbb5 (Nat.le_refl _) HK2.out.1⟩
        have hb45 : Below W4.heap.size W4 (W5.alloc (tbox r2 (.slice ra2 r2.args.length rc2))) := ((below_box W4 (tbox r (.slice ra r.args.length rc))).trans (HK2.out.2.1.mono (by simp))).trans (hbb5.mono (by omega))
        exact ArgsAt.keep hb45 (Nat.le_refl _) HK1.out.1
      have HT5 : Hid (Tri w (.slice an g.ns.length cn) (.slice aw g.ws.length cw) x (.slice a x.args.length ca) y (.slice b y.args.length cb) (W5.alloc (tbox r2 (.slice ra2 r2.args.length rc2)))) := hT5
      obtain ⟨⟨m0, m1⟩, ⟨m2, m3, m4⟩, m5, m6, m7⟩ := hC _ hT5
      clear hap2 hT5 l0 l1 l2 l3 l4 l5 l6 l7 p0 p1 p2 hbb5
      go_wp2_with fail
      refine h9.mono ?_
      rintro e W6 ⟨rfl, hb6⟩
      obtain ⟨W7, hW7⟩ : ∃ W7, W6.alloc (.cells #[.slice an g.ns.length cn, .slice aw g.ws.length cw] 31) = W7 := ⟨_, rfl⟩
      have hb67 : Below W6.heap.size W6 W7 := by rw [← hW7]; exact below_box W6 _
      have hb57 : Below (W5.alloc (tbox r2 (.slice ra2 r2.args.length rc2))).heap.size (W5.alloc (tbox r2 (.slice ra2 r2.args.length rc2))) W7 := hb6.trans (hb67.mono hb6.size)
      obtain ⟨o0, o1⟩ := box2_cells W6 (.slice an g.ns.length cn) (.slice aw g.ws.length cw) 31
      rw [hW7] at o0 o1
      have hz6 : W6.heap.size < W7.heap.size := by rw [← hW7]; simp
      have hz5 : W5.heap.size < W6.heap.size := by have := hb6.size; simp at this; omega
      have hC7 : ∀ X, Below W7.heap.size W7 X → Tri w (.slice an g.ns.length cn) (.slice aw g.ws.length cw) x (.slice a x.args.length ca) y (.slice b y.args.length cb) X ∧ (X.cell? ⟨W6.heap.size, 0, none⟩ = some (.slice an g.ns.length cn) ∧ X.cell? ⟨W6.heap.size, 1, none⟩ = some (.slice aw g.ws.length cw)) ∧ (X.cell? ⟨W4.heap.size, 0, none⟩ = some (.int .i64 r.v) ∧ X.cell? ⟨W4.heap.size, 1, none⟩ = some (.string r.fn) ∧ X.cell? ⟨W4.heap.size, 2, none⟩ = some (.slice ra r.args.length rc)) ∧ (X.cell? ⟨W5.heap.size, 0, none⟩ = some (.int .i64 r2.v) ∧ X.cell? ⟨W5.heap.size, 1, none⟩ = some (.string r2.fn) ∧ X.cell? ⟨W5.heap.size, 2, none⟩ = some (.slice ra2 r2.args.length rc2)) ∧ ArgsAt X (.slice ra r.args.length rc) r.args ∧ ArgsAt X (.slice ra2 r2.args.length rc2) r2.args := fun X hX => by
        have hb5X := hb57.trans (hX.mono hb57.size)
        refine ⟨HT5.out.keep hb5X, ⟨kc hX hz6 o0, kc hX hz6 o1⟩, ⟨kc hb5X (by simp; omega) p0', kc hb5X (by simp; omega) p1', kc hb5X (by simp; omega) p2'⟩, ⟨kc hb5X (by simp) q0, kc hb5X (by simp) q1, kc hb5X (by simp) q2⟩, ArgsAt.keep hb5X (Nat.le_refl _) HK2'.out.1, ArgsAt.keep hb5X (Nat.le_refl _) HK2'.out.2⟩
      have h11 : ∀ X, Below W7.heap.size W7 X → Calls Try.prog 11 #[.agg #[.slice an g.ns.length cn, .slice aw g.ws.length cw], .agg #[.int .i64 x.v, .string x.fn, .slice a x.args.length ca], .agg #[.int .i64 y.v, .string y.fn, .slice b y.args.length cb]] X fun e X' => e = .returned (.int .i64 (ccmp g x y)) ∧ Below W7.heap.size W7 X' := fun X hX => by
        have hq := (hC7 X hX).1
        exact (kcompare_any g x y _ _ _ _ X (HP.out.1.keep hq.bel (Nat.le_refl _)) (ArgsAt.keep hq.bel (Nat.le_refl _) HP.out.2.1) (ArgsAt.keep hq.bel (Nat.le_refl _) HP.out.2.2.1) HP.out.2.2.2.2.1 HP.out.2.2.2.2.2.1).mono fun e X' ⟨h1, h2⟩ => ⟨h1, hX.trans (h2.mono hX.size)⟩
      have h11r : k1 = 0 → k2 = 0 → ∀ X, Below W7.heap.size W7 X → Calls Try.prog 11 #[.agg #[.slice an g.ns.length cn, .slice aw g.ws.length cw], .agg #[.int .i64 r.v, .string r.fn, .slice ra r.args.length rc], .agg #[.int .i64 r2.v, .string r2.fn, .slice ra2 r2.args.length rc2]] X fun e X' => e = .returned (.int .i64 (ccmp g r r2)) ∧ Below W7.heap.size W7 X' := fun hk1 hk2 X hX => by
        have hq := hC7 X hX
        have s1 : r.size ≤ 1048576 := by
          rw [(HK1.out.2.2 hk1).2.1]
          have := app_size (img l) HSL.out.1 x
          have := HSL.out.2.1
          omega
        have s2 : r2.size ≤ 1048576 := by
          rw [(HK2.out.2.2 hk2).2.1]
          have := app_size (img l) HSL.out.1 y
          have := HSL.out.2.2
          omega
        exact (kcompare_any g r r2 _ _ _ _ X (HP.out.1.keep hq.1.bel (Nat.le_refl _)) hq.2.2.2.2.1 hq.2.2.2.2.2 s1 s2).mono fun e X' ⟨h1, h2⟩ => ⟨h1, hX.trans (h2.mono hX.size)⟩
      have h17' : ∀ X, Below W7.heap.size W7 X → Calls Try.prog 17 #[] X fun e X' => e = .returned (.bool true) ∧ Below w.heap.size w X' := fun X hX => (alive_any X).mono fun e X' ⟨h1, h2⟩ => ⟨h1, ((hC7 X hX).1.keep h2).bel⟩
      obtain ⟨hq7, ⟨s0, s1⟩, ⟨s2, s3, s4⟩, ⟨s5, s6, s7⟩, _⟩ := hC7 W7 (Below.refl _ _)
      obtain ⟨_, ⟨t2, t3, t4⟩, t5, t6, t7⟩ := hC _ hq7
      have HKT : Hid (k1 = 0 → k2 = 0 → ccmp g x y = 1 → ccmp g r r2 = 1) := keeps_true HK1.out.2.2 HK2.out.2.2
      have hC7' : ∀ X, Below W7.heap.size W7 X → (X.cell? ⟨W6.heap.size, 0, none⟩ = some (.slice an g.ns.length cn) ∧ X.cell? ⟨W6.heap.size, 1, none⟩ = some (.slice aw g.ws.length cw)) ∧ (X.cell? ⟨W4.heap.size, 0, none⟩ = some (.int .i64 r.v) ∧ X.cell? ⟨W4.heap.size, 1, none⟩ = some (.string r.fn) ∧ X.cell? ⟨W4.heap.size, 2, none⟩ = some (.slice ra r.args.length rc)) ∧ (X.cell? ⟨W5.heap.size, 0, none⟩ = some (.int .i64 r2.v) ∧ X.cell? ⟨W5.heap.size, 1, none⟩ = some (.string r2.fn) ∧ X.cell? ⟨W5.heap.size, 2, none⟩ = some (.slice ra2 r2.args.length rc2)) := fun X hX => ⟨(hC7 X hX).2.1, (hC7 X hX).2.2.1, (hC7 X hX).2.2.2.1⟩
      clear h9 hb6 hb67 hb57 o0 o1 p0' p1' p2' q0 q1 q2 hC7 m0 m1 m2 m3 m4 m5 m6 m7 HK1 HK2 HK2' hz4 hz5 hz6
      by_cases z1 : k1 = 0
      · by_cases z2 : k2 = 0
        · have h11r' := h11r z1 z2
          have HKT2 : Hid (ccmp g x y = 1 → ccmp g r r2 = 1) := HKT.out z1 z2
          subst z1 z2
          by_cases z3 : ccmp g x y = 1
          · rw [z3] at h11
            rw [HKT2.out z3] at h11r'
            clear z3 h11r HKT
            go_wp2_with fail
            refine (h11 _ (Below.refl _ _)).mono ?_
            rintro e W8 ⟨rfl, hb8⟩
            obtain ⟨⟨u0, u1⟩, ⟨u2, u3, u4⟩, u5, u6, u7⟩ := hC7' _ hb8
            go_wp2_with fail
            refine (h11r' _ hb8).mono ?_
            rintro e W9 ⟨rfl, hb9⟩
            go_wp2_with fail
            refine (h17' _ hb9).mono ?_
            rintro e W10 ⟨rfl, hb10⟩
            go_wp2
            go_ret
            exact ⟨rfl, hb10⟩
          · have e3 : (ccmp g x y != 1) = true := by rw [bne_iff_ne]; exact z3
            clear z3 h11r h11r' HKT HKT2
            go_wp2_with fail
            refine (h11 _ (Below.refl _ _)).mono ?_
            rintro e W8 ⟨rfl, hb8⟩
            go_wp2_with fail
            refine (h17' _ hb8).mono ?_
            rintro e W10 ⟨rfl, hb10⟩
            go_wp2
            go_ret
            exact ⟨rfl, hb10⟩
        · have e3 : (k2 != 0) = true := by rw [bne_iff_ne]; exact z2
          subst z1
          clear z2 h11r HKT
          go_wp2_with fail
          refine (h17' _ (Below.refl _ _)).mono ?_
          rintro e W10 ⟨rfl, hb10⟩
          go_wp2
          go_ret
          exact ⟨rfl, hb10⟩
      · have e3 : (k1 != 0) = true := by rw [bne_iff_ne]; exact z1
        clear z1 h11r HKT
        go_wp2_with fail
        refine (h17' _ (Below.refl _ _)).mono ?_
        rintro e W10 ⟨rfl, hb10⟩
        go_wp2
        go_ret
        exact ⟨rfl, hb10⟩

end Go.Proofs.Ytcnodgjalkcgiaa
