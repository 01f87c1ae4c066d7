import Derived.Test.YtpahgmidofacaaaVI
import Derived.Test.YtpahgmidofacaaaRC
import Derived.Test.YtpahgmidofacaaaKA
import Derived.Test.YtpahgmidofacaaaR

/-
  LpoKeeps: the law's walk.
-/

namespace Go.Proofs.Ytpahgmidofacaaa
open Go.RowKit Go.Maps

theorem small_of {t : T} {l : List T} (h : smallB l = true) (ht : t ∈ l) (hz : t.size ≤ 1048576) : t.size ≤ 100 := by
  unfold smallB at h
  have h1 := List.all_eq_true.1 h t ht
  have h2 := size_pos t
  have h3 : ¬ 100 < wrap64 t.size := by simpa using h1
  rw [wrap_small (by omega) (by omega)] at h3
  omega

theorem app_size (σ : Int → T) (hσ : ∀ n, (σ n).size ≤ 100) (t : T) : (t.app σ).size ≤ 100 * t.size := by
  induction t using T.ind with
  | _ t ih =>
    rw [t.app_eq]
    have hp : ∀ l : List T, (∀ a ∈ l, a ∈ t.args) → ((l.map (T.app σ)).map T.size).sum ≤ 100 * (l.map T.size).sum := by
      intro l
      induction l with
      | nil => intro _; simp
      | cons a r ihl =>
        intro hl
        have h1 := ih a (hl a (by simp))
        have h2 := ihl (fun b hb => hl b (by simp [hb]))
        simp only [List.map_cons, List.sum_cons]
        omega
    split
    · have := hσ t.v
      have := size_pos t
      omega
    · rw [T.size_eq, t.size_eq]
      have := hp t.args (fun _ h => h)
      show 1 + ((t.args.map (T.app σ)).map T.size).sum ≤ _
      omega
theorem img_size {l : List Bd} (h : ∀ b ∈ l, b.2.size ≤ 100) (n : Int) : (img l n).size ≤ 100 := by
  unfold img
  cases hf : l.find? (fun b => decide (b.1 = n)) with
  | none =>
    show (var n).size ≤ 100
    rw [T.size_eq]
    simp [var, T.args]
  | some b => exact h b (List.mem_of_find?_eq_some hf)

/-- What Apply answers, told shortly. -/
theorem apply_gen (l : List Bd) (hl : isSub l = true) (x : T) (v sx : Value) (w : World) (hb : BindsAt w v l) (ha : ArgsAt w sx x.args) :
    Calls Try.prog 14 #[v, tval x sx] w fun e W' => ∃ r pa pc k, e = .returned (.tuple #[tval r (.slice pa r.args.length pc), .int .i64 k]) ∧ Hid (ArgsAt W' (.slice pa r.args.length pc) r.args ∧ Below w.heap.size w W' ∧ (k = 0 → x.rightW = 0 ∧ r = x.app (img l) ∧ r.rightW = 0)) := by
  by_cases hx : x.rightW = 0
  · refine (rapply_ok l x hl hx v sx w hb ha).mono fun e W' ⟨r, s5, he, hr, hA, hB⟩ => ?_
    obtain ⟨pa, pc, rfl, _⟩ := hA.slice
    refine ⟨r, pa, pc, _, he, hA, hB, fun hk => ?_⟩
    rw [if_pos hk] at hr
    exact ⟨hx, hr, by rw [hr]; exact hk⟩
  · refine (rapply_arg l x (.inr hx) v sx w hb ha).mono fun e W' ⟨he, hB⟩ => ?_
    exact ⟨zt, none, 0, 1, he, nilArgs W', hB, fun h => by omega⟩

/-- What the law asks of the answers. -/
theorem keeps_true {g : Sg} {l : List Bd} {x y r s : T} {j k : Int} (h1 : j = 0 → x.rightW = 0 ∧ r = x.app (img l) ∧ r.rightW = 0) (h2 : k = 0 → y.rightW = 0 ∧ s = y.app (img l) ∧ s.rightW = 0) (hj : j = 0) (hk : k = 0) (h : lcmp g x y = 1) : lcmp g r s = 1 := by
  obtain ⟨a1, a2, a3⟩ := h1 hj
  obtain ⟨b1, b2, b3⟩ := h2 hk
  obtain ⟨c1, _, _, c4⟩ := lcmp_one h
  refine lcmp_mk c1 a3 b3 ?_
  rw [a2, b2]
  exact lg_app g (img l) c4 (right_shape a1) (right_shape b1)

theorem argsAt_one {X : World} {t : T} {sx : Value} (h : ArgsAt X sx t.args) : ArgsAt (X.alloc (.cells #[.int .i64 t.v, .string t.fn, sx] 28)) (.slice (some ⟨X.heap.size, 0, none⟩) 1 1) [t] :=
  argsAt_box (t := t) (MapKept.heap_alloc X _).1 (ArgsAt.keep (below_box X _) (Nat.le_refl _) h)
theorem argsAt_two {X : World} {s t : T} {ss st : Value} (hs : ArgsAt X ss s.args) (ht : ArgsAt X st t.args) : ArgsAt (X.alloc (.cells #[.int .i64 s.v, .string s.fn, ss, .int .i64 t.v, .string t.fn, st] 28)) (.slice (some ⟨X.heap.size, 0, none⟩) 2 2) [s, t] := args_two X s t ss st hs ht

set_option maxRecDepth 100000 in
set_option maxHeartbeats 8000000 in
theorem keeps_any (g : Sg) (x y : T) (l : List Bd) (vn vw sx sy v : Value) (w : World) (hg : SgAt w g vn vw) (hax : ArgsAt w sx x.args) (hay : ArgsAt w sy y.args) (hbs : BindsAt w v l) (hzx : x.size ≤ 1048576) (hzy : y.size ≤ 1048576) (hzl : ∀ b ∈ l, b.2.size ≤ 1048576) :
    Calls Try.prog 5 #[gval vn vw, tval x sx, tval y sy, v] w fun e w' => e = .returned (.bool true) ∧ Below w.heap.size w w' := by
  obtain ⟨an, cn, rfl, _, _⟩ := hg.ns.slice
  obtain ⟨aw, cw, rfl, _, _⟩ := hg.ws.slice
  obtain ⟨a, ca, rfl, _, _⟩ := hax.slice
  obtain ⟨b, cb, rfl, _, _⟩ := hay.slice
  obtain ⟨d, cd, rfl⟩ := hbs.slice
  have hln := hbs.len
  have hT := tri_made w (.slice an g.ns.length cn) (.slice aw g.ws.length cw) 25 x (.slice a x.args.length ca) y (.slice b y.args.length cb)
  have hC : ∀ X, Tri w (.slice an g.ns.length cn) (.slice aw g.ws.length cw) x (.slice a x.args.length ca) y (.slice b y.args.length cb) X → (X.cell? ⟨w.heap.size, 0, none⟩ = some (.slice an g.ns.length cn) ∧ X.cell? ⟨w.heap.size, 1, none⟩ = some (.slice aw g.ws.length cw)) ∧ (X.cell? ⟨w.heap.size + 1, 0, none⟩ = some (.int .i64 x.v) ∧ X.cell? ⟨w.heap.size + 1, 1, none⟩ = some (.string x.fn) ∧ X.cell? ⟨w.heap.size + 1, 2, none⟩ = some (.slice a x.args.length ca)) ∧ (X.cell? ⟨w.heap.size + 1 + 1, 0, none⟩ = some (.int .i64 y.v) ∧ X.cell? ⟨w.heap.size + 1 + 1, 1, none⟩ = some (.string y.fn) ∧ X.cell? ⟨w.heap.size + 1 + 1, 2, none⟩ = some (.slice b y.args.length cb)) := fun X h => ⟨⟨h.g0, h.g1⟩, ⟨h.a0, h.a1, h.a2⟩, h.b0, h.b1, h.b2⟩
  have h18 : ∀ X, Tri w (.slice an g.ns.length cn) (.slice aw g.ws.length cw) x (.slice a x.args.length ca) y (.slice b y.args.length cb) X → Calls Try.prog 13 #[.slice d l.length cd] X fun e X' => e = .returned (.bool (isSub l)) ∧ Tri w (.slice an g.ns.length cn) (.slice aw g.ws.length cw) x (.slice a x.args.length ca) y (.slice b y.args.length cb) X' := fun X hX => (ris_any l _ X (hbs.keep hX.bel)).mono fun e X' ⟨h1, h2⟩ => ⟨h1, hX.keep h2⟩
  have h19 : ∀ X, Tri w (.slice an g.ns.length cn) (.slice aw g.ws.length cw) x (.slice a x.args.length ca) y (.slice b y.args.length cb) X → Calls Try.prog 8 #[.slice (some ⟨X.heap.size, 0, none⟩) 2 2] (X.alloc (.cells #[.int .i64 x.v, .string x.fn, .slice a x.args.length ca, .int .i64 y.v, .string y.fn, .slice b y.args.length cb] 28)) fun e X' => e = .returned (.bool (smallB [x, y])) ∧ Tri w (.slice an g.ns.length cn) (.slice aw g.ws.length cw) x (.slice a x.args.length ca) y (.slice b y.args.length cb) X' := fun X hX => (small_any [x, y] _ _ (argsAt_two (ArgsAt.keep hX.bel (Nat.le_refl _) hax) (ArgsAt.keep hX.bel (Nat.le_refl _) hay))).mono fun e X' ⟨h1, h2⟩ => ⟨h1, (hX.keep (below_box X _)).keep h2⟩
  have h17 : ∀ X, Tri w (.slice an g.ns.length cn) (.slice aw g.ws.length cw) x (.slice a x.args.length ca) y (.slice b y.args.length cb) X → Calls Try.prog 9 #[] X fun e X' => e = .returned (.bool true) ∧ Tri w (.slice an g.ns.length cn) (.slice aw g.ws.length cw) x (.slice a x.args.length ca) y (.slice b y.args.length cb) X' := fun X hX => (alive_any X).mono fun e X' ⟨h1, h2⟩ => ⟨h1, hX.keep h2⟩
  have hB : ∀ X, Tri w (.slice an g.ns.length cn) (.slice aw g.ws.length cw) x (.slice a x.args.length ca) y (.slice b y.args.length cb) X → Below w.heap.size w X := fun X h => h.bel
  have HP : Hid (SgAt w g (.slice an g.ns.length cn) (.slice aw g.ws.length cw) ∧ ArgsAt w (.slice a x.args.length ca) x.args ∧ ArgsAt w (.slice b y.args.length cb) y.args ∧ BindsAt w (.slice d l.length cd) l ∧ x.size ≤ 1048576 ∧ y.size ≤ 1048576 ∧ ∀ b ∈ l, b.2.size ≤ 1048576) := ⟨hg, hax, hay, hbs, hzx, hzy, hzl⟩
  clear hg hax hay hbs hzx hzy hzl
  obtain ⟨⟨i0, i1⟩, ⟨i2, i3, i4⟩, i5, i6, i7⟩ := hC _ hT
  have HT : Hid (Tri w (.slice an g.ns.length cn) (.slice aw g.ws.length cw) x (.slice a x.args.length ca) y (.slice b y.args.length cb) _) := hT
  clear hT
  cases hsub : isSub l
  · rw [hsub] at h18
    clear hsub
    go_enter Try.func5, Try.ntmps5
    go_wp2_with fail
    refine (h18 _ HT.out).mono ?_
    rintro e W2 ⟨rfl, hT2⟩
    go_wp2_with fail
    refine (h17 _ hT2).mono ?_
    rintro e W3 ⟨rfl, hT3⟩
    go_wp2
    go_ret
    exact ⟨rfl, hB _ hT3⟩
  rw [hsub] at h18
  by_cases h20 : 20 < l.length
  · have e1 : decide ((20 : Int) < (l.length : Int)) = true := decide_eq_true (by omega)
    clear hsub
    go_enter Try.func5, Try.ntmps5
    go_wp2_with fail
    refine (h18 _ HT.out).mono ?_
    rintro e W2 ⟨rfl, hT2⟩
    go_wp2_with fail
    refine (h17 _ hT2).mono ?_
    rintro e W3 ⟨rfl, hT3⟩
    go_wp2
    go_ret
    exact ⟨rfl, hB _ hT3⟩
  have e1 : decide ((20 : Int) < (l.length : Int)) = false := decide_eq_false (by omega)
  cases hsm : smallB [x, y]
  · rw [hsm] at h19
    clear hsub hsm
    go_enter Try.func5, Try.ntmps5
    go_wp2_with fail
    refine (h18 _ HT.out).mono ?_
    rintro e W2 ⟨rfl, hT2⟩
    obtain ⟨⟨j0, j1⟩, ⟨j2, j3, j4⟩, j5, j6, j7⟩ := hC _ hT2
    go_wp2_with fail
    refine (h19 _ hT2).mono ?_
    rintro e W3 ⟨rfl, hT3⟩
    go_wp2_with fail
    refine (h17 _ hT3).mono ?_
    rintro e W4 ⟨rfl, hT4⟩
    go_wp2
    go_ret
    exact ⟨rfl, hB _ hT4⟩
  rw [hsm] at h19
  have HSM : Hid (isSub l = true ∧ smallB [x, y] = true) := ⟨hsub, hsm⟩
  clear hsub hsm
  go_enter Try.func5, Try.ntmps5
  go_wp2_with fail
  refine (h18 _ HT.out).mono ?_
  rintro e W2 ⟨rfl, hT2⟩
  obtain ⟨⟨j0, j1⟩, ⟨j2, j3, j4⟩, j5, j6, j7⟩ := hC _ hT2
  go_wp2_with fail
  refine (h19 _ hT2).mono ?_
  rintro e W3 ⟨rfl, hT3⟩
  have HT3 : Hid (Tri w (.slice an g.ns.length cn) (.slice aw g.ws.length cw) x (.slice a x.args.length ca) y (.slice b y.args.length cb) W3) := hT3
  clear i0 i1 i2 i3 i4 i5 i6 i7 j0 j1 j2 j3 j4 j5 j6 j7 hT2 hT3 HT h18 h19
  go_wp2
  go_loopw [9] (fun vi wr => ∃ i : Nat, vi = .int .i64 i ∧ i ≤ l.length ∧ Hid (∀ j (hj : j < l.length), j < i → smallB [l[j].2] = true) ∧ Hid (Tri w (.slice an g.ns.length cn) (.slice aw g.ws.length cw) x (.slice a x.args.length ca) y (.slice b y.args.length cb) wr)) (fun vi _ => l.length - (intOf vi).toNat)
  case atStart => exact ⟨0, rfl, Nat.zero_le _, fun j _ hj => absurd hj (by omega), HT3⟩
  case round =>
    obtain ⟨i, rfl, hi, HA, HR⟩ := hrel
    by_cases hlt : i < l.length
    · obtain ⟨bb, oo, s, rfl, hX⟩ := (HP.out.2.2.2.1.keep HR.out.bel).nth hlt
      obtain ⟨hl0, c0, c1, c2, c3, hsub⟩ := hX
      have hcall := small_any [l[i].2] _ _ (argsAt_one hsub)
      obtain ⟨sa, sc, rfl, _⟩ := hsub.slice
      have HNx : Hid (smallB [l[i].2] = true → ∀ j (hj : j < l.length), j < i + 1 → smallB [l[j].2] = true) := fun h j hj hji => by
        by_cases ej : j = i
        · subst ej; exact h
        · exact HA.out j hj (by omega)
      have HB1 : Hid (∀ W', Below (wr.alloc (.cells #[.int .i64 l[i].2.v, .string l[i].2.fn, .slice sa l[i].2.args.length sc] 28)).heap.size (wr.alloc (.cells #[.int .i64 l[i].2.v, .string l[i].2.fn, .slice sa l[i].2.args.length sc] 28)) W' → Tri w (.slice an g.ns.length cn) (.slice aw g.ws.length cw) x (.slice a x.args.length ca) y (.slice b y.args.length cb) W') := fun W' h => (HR.out.keep (below_box wr _)).keep h
      obtain ⟨q, hq⟩ : ∃ q, l[i] = q := ⟨_, rfl⟩
      rw [hq] at hcall HNx HB1 c0 c1 c2 c3
      have hi1 : (0 : Int) ≤ (i : Int) := by omega
      have hi2 : (i : Int) < (l.length : Int) := by omega
      clear hsub hq
      cases hq : smallB [q.2]
      · rw [hq] at hcall
        clear HNx hq
        go_wp2_with fail
        refine hcall.mono ?_
        rintro e W4 ⟨rfl, hb4⟩
        go_wp2_with fail
        refine (h17 _ (HB1.out _ hb4)).mono ?_
        rintro e W5 ⟨rfl, hT5⟩
        go_wp2
        go_ret
        exact ⟨rfl, hB _ hT5⟩
      · rw [hq] at hcall
        have HN2 : Hid (∀ j (hj : j < l.length), j < i + 1 → smallB [l[j].2] = true) := HNx.out hq
        clear HNx hq
        go_wp2_with fail
        refine hcall.mono ?_
        rintro e W4 ⟨rfl, hb4⟩
        have HT4 : Hid (Tri w (.slice an g.ns.length cn) (.slice aw g.ws.length cw) x (.slice a x.args.length ca) y (.slice b y.args.length cb) W4) := HB1.out _ hb4
        clear hb4 hcall
        go_wp2
        go_roundw
        case rel => exact ⟨i + 1, by go_num, by omega, HN2, HT4⟩
        case measure => simp [intOf]; omega
    · have HSL : Hid ((∀ n, (img l n).size ≤ 100) ∧ x.size ≤ 100 ∧ y.size ≤ 100) := by
        refine ⟨img_size fun bd hb => ?_, small_of HSM.out.2 (by simp) HP.out.2.2.2.2.1, small_of HSM.out.2 (by simp) HP.out.2.2.2.2.2.1⟩
        obtain ⟨j, hj, rfl⟩ := List.getElem_of_mem hb
        exact small_of (HA.out j hj (by omega)) (by simp) (HP.out.2.2.2.2.2.2 _ (List.getElem_mem hj))
      have hTr := HR.out
      obtain ⟨⟨j0, j1⟩, ⟨j2, j3, j4⟩, j5, j6, j7⟩ := hC _ hTr
      have hap := apply_gen l HSM.out.1 x _ _ wr (HP.out.2.2.2.1.keep hTr.bel) (ArgsAt.keep hTr.bel (Nat.le_refl _) HP.out.2.1)
      clear HA
      go_wp2_with fail
      refine hap.mono ?_
      rintro e W4 ⟨r, ra, rc, k1, rfl, HK1⟩
      have hT4 := (hTr.keep HK1.out.2.1).keep (below_box W4 (tbox r (.slice ra r.args.length rc)))
      obtain ⟨⟨l0, l1⟩, ⟨l2, l3, l4⟩, l5, l6, l7⟩ := hC _ hT4
      obtain ⟨p0, p1, p2⟩ := tbox_cells W4 r (.slice ra r.args.length rc)
      have hap2 := apply_gen l HSM.out.1 y _ _ (W4.alloc (tbox r (.slice ra r.args.length rc))) (HP.out.2.2.2.1.keep hT4.bel) (ArgsAt.keep hT4.bel (Nat.le_refl _) HP.out.2.2.1)
      have HT4 : Hid (Tri w (.slice an g.ns.length cn) (.slice aw g.ws.length cw) x (.slice a x.args.length ca) y (.slice b y.args.length cb) (W4.alloc (tbox r (.slice ra r.args.length rc)))) := hT4
      clear hap hT4 hTr j0 j1 j2 j3 j4 j5 j6 j7
      go_wp2_with fail
      refine hap2.mono ?_
      rintro e W5 ⟨r2, ra2, rc2, k2, rfl, HK2⟩
      have hz4 : W4.heap.size < W5.heap.size := by have := HK2.out.2.1.size; simp at this; omega
      have hT5 := (HT4.out.keep HK2.out.2.1).keep (below_box W5 (tbox r2 (.slice ra2 r2.args.length rc2)))
      have hbb5 := below_box W5 (tbox r2 (.slice ra2 r2.args.length rc2))
      have p0' := kc hbb5 hz4 (kc HK2.out.2.1 (by simp) p0)
      have p1' := kc hbb5 hz4 (kc HK2.out.2.1 (by simp) p1)
      have p2' := kc hbb5 hz4 (kc HK2.out.2.1 (by simp) p2)
      obtain ⟨q0, q1, q2⟩ := tbox_cells W5 r2 (.slice ra2 r2.args.length rc2)
      have HK2' : Hid (ArgsAt (W5.alloc (tbox r2 (.slice ra2 r2.args.length rc2))) (.slice ra r.args.length rc) r.args ∧ ArgsAt (W5.alloc (tbox r2 (.slice ra2 r2.args.length rc2))) (.slice ra2 r2.args.length rc2) r2.args) := by
        refine ⟨?_, ArgsAt.keep hbb5 (Nat.le_refl _) HK2.out.1⟩
        have hb45 : Below W4.heap.size W4 (W5.alloc (tbox r2 (.slice ra2 r2.args.length rc2))) := ((below_box W4 (tbox r (.slice ra r.args.length rc))).trans (HK2.out.2.1.mono (by simp))).trans (hbb5.mono (by omega))
        exact ArgsAt.keep hb45 (Nat.le_refl _) HK1.out.1
      have HT5 : Hid (Tri w (.slice an g.ns.length cn) (.slice aw g.ws.length cw) x (.slice a x.args.length ca) y (.slice b y.args.length cb) (W5.alloc (tbox r2 (.slice ra2 r2.args.length rc2)))) := hT5
      obtain ⟨⟨m0, m1⟩, ⟨m2, m3, m4⟩, m5, m6, m7⟩ := hC _ hT5
      clear hap2 hT5 l0 l1 l2 l3 l4 l5 l6 l7 p0 p1 p2 hbb5
      have hz5b : W5.heap.size < (W5.alloc (tbox r2 (.slice ra2 r2.args.length rc2))).heap.size := by simp
      have hz4b : W4.heap.size < (W5.alloc (tbox r2 (.slice ra2 r2.args.length rc2))).heap.size := by simp; omega
      have hs1 := rsize_any r (.slice ra r.args.length rc) (W5.alloc (tbox r2 (.slice ra2 r2.args.length rc2))) HK2'.out.1
      have hs2 : ∀ X, Below (W5.alloc (tbox r2 (.slice ra2 r2.args.length rc2))).heap.size (W5.alloc (tbox r2 (.slice ra2 r2.args.length rc2))) X → Calls Try.prog 15 #[.agg #[.int .i64 r2.v, .string r2.fn, .slice ra2 r2.args.length rc2]] X fun e X' => e = .returned (.int .i64 (wrap64 r2.size)) ∧ Below (W5.alloc (tbox r2 (.slice ra2 r2.args.length rc2))).heap.size (W5.alloc (tbox r2 (.slice ra2 r2.args.length rc2))) X' := fun X hX => (rsize_any r2 _ X (ArgsAt.keep hX (Nat.le_refl _) HK2'.out.2)).mono fun e X' ⟨h1, h2⟩ => ⟨h1, hX.trans (h2.mono hX.size)⟩
      have hTv : ∀ X, Below (W5.alloc (tbox r2 (.slice ra2 r2.args.length rc2))).heap.size (W5.alloc (tbox r2 (.slice ra2 r2.args.length rc2))) X → Tri w (.slice an g.ns.length cn) (.slice aw g.ws.length cw) x (.slice a x.args.length ca) y (.slice b y.args.length cb) X := fun X hX => HT5.out.keep hX
      have hAv : ∀ X, Below (W5.alloc (tbox r2 (.slice ra2 r2.args.length rc2))).heap.size (W5.alloc (tbox r2 (.slice ra2 r2.args.length rc2))) X → ArgsAt X (.slice ra r.args.length rc) r.args ∧ ArgsAt X (.slice ra2 r2.args.length rc2) r2.args := fun X hX => ⟨ArgsAt.keep hX (Nat.le_refl _) HK2'.out.1, ArgsAt.keep hX (Nat.le_refl _) HK2'.out.2⟩
      have hPv : ∀ X, Below (W5.alloc (tbox r2 (.slice ra2 r2.args.length rc2))).heap.size (W5.alloc (tbox r2 (.slice ra2 r2.args.length rc2))) X → (X.cell? ⟨W4.heap.size, 0, none⟩ = some (.int .i64 r.v) ∧ X.cell? ⟨W4.heap.size, 1, none⟩ = some (.string r.fn) ∧ X.cell? ⟨W4.heap.size, 2, none⟩ = some (.slice ra r.args.length rc)) ∧ (X.cell? ⟨W5.heap.size, 0, none⟩ = some (.int .i64 r2.v) ∧ X.cell? ⟨W5.heap.size, 1, none⟩ = some (.string r2.fn) ∧ X.cell? ⟨W5.heap.size, 2, none⟩ = some (.slice ra2 r2.args.length rc2)) ∧ W4.heap.size < X.heap.size ∧ W5.heap.size < X.heap.size := fun X hX => ⟨⟨kc hX hz4b p0', kc hX hz4b p1', kc hX hz4b p2'⟩, ⟨kc hX hz5b q0, kc hX hz5b q1, kc hX hz5b q2⟩, Nat.lt_of_lt_of_le hz4b hX.size, Nat.lt_of_lt_of_le hz5b hX.size⟩
      obtain ⟨z1, hz1⟩ : ∃ z, wrap64 r.size = z := ⟨_, rfl⟩
      obtain ⟨z2, hz2⟩ : ∃ z, wrap64 r2.size = z := ⟨_, rfl⟩
      rw [hz1] at hs1
      rw [hz2] at hs2
      clear hz1 hz2
      by_cases hbig1 : 400 < z1
      · have e4 : decide (400 < z1) = true := decide_eq_true hbig1
        clear hbig1 hs2
        go_wp2_with fail
        refine hs1.mono ?_
        rintro e V1 ⟨rfl, hv1⟩
        go_wp2_with fail
        refine (h17 _ (hTv _ hv1)).mono ?_
        rintro e V2 ⟨rfl, hT9⟩
        go_wp2
        go_ret
        exact ⟨rfl, hB _ hT9⟩
      have e4 : decide (400 < z1) = false := decide_eq_false hbig1
      by_cases hbig2 : 400 < z2
      · have e5 : decide (400 < z2) = true := decide_eq_true hbig2
        clear hbig1 hbig2
        go_wp2_with fail
        refine hs1.mono ?_
        rintro e V1 ⟨rfl, hv1⟩
        obtain ⟨_, ⟨q0v, q1v, q2v⟩, _⟩ := hPv _ hv1
        go_wp2_with fail
        refine (hs2 _ hv1).mono ?_
        rintro e V2 ⟨rfl, hv2⟩
        go_wp2_with fail
        refine (h17 _ (hTv _ hv2)).mono ?_
        rintro e V3 ⟨rfl, hT9⟩
        go_wp2
        go_ret
        exact ⟨rfl, hB _ hT9⟩
      have e5 : decide (400 < z2) = false := decide_eq_false hbig2
      clear hbig1 hbig2
      go_wp2_with fail
      refine hs1.mono ?_
      rintro e V1 ⟨rfl, hv1⟩
      obtain ⟨_, ⟨q0v, q1v, q2v⟩, _⟩ := hPv _ hv1
      go_wp2_with fail
      refine (hs2 _ hv1).mono ?_
      rintro e V2 ⟨rfl, hv2⟩
      have h9 := own_any (.slice an g.ns.length cn) (.slice aw g.ws.length cw) ⟨_, _, _, rfl⟩ ⟨_, _, _, rfl⟩ V2
      have hT5v := hTv _ hv2
      have hA5v := hAv _ hv2
      obtain ⟨⟨p0v, p1v, p2v⟩, ⟨q0w, q1w, q2w⟩, hz4v, hz5v⟩ := hPv _ hv2
      clear m0 m1 m2 m3 m4 m5 m6 m7 p0' p1' p2' q0 q1 q2 HT5 HK2' hTv hAv hPv hs1 hs2 q0v q1v q2v hz4b hz5b
      have HT5 : Hid (Tri w (.slice an g.ns.length cn) (.slice aw g.ws.length cw) x (.slice a x.args.length ca) y (.slice b y.args.length cb) V2) := hT5v
      have HK2' : Hid (ArgsAt V2 (.slice ra r.args.length rc) r.args ∧ ArgsAt V2 (.slice ra2 r2.args.length rc2) r2.args) := hA5v
      have p0' := p0v
      have p1' := p1v
      have p2' := p2v
      have q0 := q0w
      have q1 := q1w
      have q2 := q2w
      obtain ⟨⟨m0, m1⟩, ⟨m2, m3, m4⟩, m5, m6, m7⟩ := hC _ hT5v
      clear p0v p1v p2v q0w q1w q2w hT5v hA5v
      go_wp2_with fail
      refine h9.mono ?_
      rintro e W6 ⟨rfl, hb6⟩
      obtain ⟨W7, hW7⟩ : ∃ W7, W6.alloc (.cells #[.slice an g.ns.length cn, .slice aw g.ws.length cw] 32) = W7 := ⟨_, rfl⟩
      have hb67 : Below W6.heap.size W6 W7 := by rw [← hW7]; exact below_box W6 _
      have hb57 : Below V2.heap.size V2 W7 := hb6.trans (hb67.mono hb6.size)
      obtain ⟨o0, o1⟩ := box2_cells W6 (.slice an g.ns.length cn) (.slice aw g.ws.length cw) 32
      rw [hW7] at o0 o1
      have hz6 : W6.heap.size < W7.heap.size := by rw [← hW7]; simp
      have hz5 : W5.heap.size < W6.heap.size := by have := hb6.size; omega
      have hC7 : ∀ X, Below W7.heap.size W7 X → Tri w (.slice an g.ns.length cn) (.slice aw g.ws.length cw) x (.slice a x.args.length ca) y (.slice b y.args.length cb) X ∧ (X.cell? ⟨W6.heap.size, 0, none⟩ = some (.slice an g.ns.length cn) ∧ X.cell? ⟨W6.heap.size, 1, none⟩ = some (.slice aw g.ws.length cw)) ∧ (X.cell? ⟨W4.heap.size, 0, none⟩ = some (.int .i64 r.v) ∧ X.cell? ⟨W4.heap.size, 1, none⟩ = some (.string r.fn) ∧ X.cell? ⟨W4.heap.size, 2, none⟩ = some (.slice ra r.args.length rc)) ∧ (X.cell? ⟨W5.heap.size, 0, none⟩ = some (.int .i64 r2.v) ∧ X.cell? ⟨W5.heap.size, 1, none⟩ = some (.string r2.fn) ∧ X.cell? ⟨W5.heap.size, 2, none⟩ = some (.slice ra2 r2.args.length rc2)) ∧ ArgsAt X (.slice ra r.args.length rc) r.args ∧ ArgsAt X (.slice ra2 r2.args.length rc2) r2.args := fun X hX => by
        have hb5X := hb57.trans (hX.mono hb57.size)
        refine ⟨HT5.out.keep hb5X, ⟨kc hX hz6 o0, kc hX hz6 o1⟩, ⟨kc hb5X hz4v p0', kc hb5X hz4v p1', kc hb5X hz4v p2'⟩, ⟨kc hb5X hz5v q0, kc hb5X hz5v q1, kc hb5X hz5v q2⟩, ArgsAt.keep hb5X (Nat.le_refl _) HK2'.out.1, ArgsAt.keep hb5X (Nat.le_refl _) HK2'.out.2⟩
      have h11 : ∀ X, Below W7.heap.size W7 X → Calls Try.prog 10 #[.agg #[.slice an g.ns.length cn, .slice aw g.ws.length cw], .agg #[.int .i64 x.v, .string x.fn, .slice a x.args.length ca], .agg #[.int .i64 y.v, .string y.fn, .slice b y.args.length cb]] X fun e X' => e = .returned (.int .i64 (lcmp g x y)) ∧ Below W7.heap.size W7 X' := fun X hX => by
        have hq := (hC7 X hX).1
        exact (lcompare_any g x y _ _ _ _ X (HP.out.1.keep hq.bel (Nat.le_refl _)) (ArgsAt.keep hq.bel (Nat.le_refl _) HP.out.2.1) (ArgsAt.keep hq.bel (Nat.le_refl _) HP.out.2.2.1) HP.out.2.2.2.2.1 HP.out.2.2.2.2.2.1).mono fun e X' ⟨h1, h2⟩ => ⟨h1, hX.trans (h2.mono hX.size)⟩
      have h11r : k1 = 0 → k2 = 0 → ∀ X, Below W7.heap.size W7 X → Calls Try.prog 10 #[.agg #[.slice an g.ns.length cn, .slice aw g.ws.length cw], .agg #[.int .i64 r.v, .string r.fn, .slice ra r.args.length rc], .agg #[.int .i64 r2.v, .string r2.fn, .slice ra2 r2.args.length rc2]] X fun e X' => e = .returned (.int .i64 (lcmp g r r2)) ∧ Below W7.heap.size W7 X' := fun hk1 hk2 X hX => by
        have hq := hC7 X hX
        have s1 : r.size ≤ 1048576 := by
          rw [(HK1.out.2.2 hk1).2.1]
          have := app_size (img l) HSL.out.1 x
          have := HSL.out.2.1
          omega
        have s2 : r2.size ≤ 1048576 := by
          rw [(HK2.out.2.2 hk2).2.1]
          have := app_size (img l) HSL.out.1 y
          have := HSL.out.2.2
          omega
        exact (lcompare_any g r r2 _ _ _ _ X (HP.out.1.keep hq.1.bel (Nat.le_refl _)) hq.2.2.2.2.1 hq.2.2.2.2.2 s1 s2).mono fun e X' ⟨h1, h2⟩ => ⟨h1, hX.trans (h2.mono hX.size)⟩
      have h17' : ∀ X, Below W7.heap.size W7 X → Calls Try.prog 9 #[] X fun e X' => e = .returned (.bool true) ∧ Below w.heap.size w X' := fun X hX => (alive_any X).mono fun e X' ⟨h1, h2⟩ => ⟨h1, ((hC7 X hX).1.keep h2).bel⟩
      obtain ⟨hq7, ⟨s0, s1⟩, ⟨s2, s3, s4⟩, ⟨s5, s6, s7⟩, _⟩ := hC7 W7 (Below.refl _ _)
      obtain ⟨_, ⟨t2, t3, t4⟩, t5, t6, t7⟩ := hC _ hq7
      have HKT : Hid (k1 = 0 → k2 = 0 → lcmp g x y = 1 → lcmp g r r2 = 1) := keeps_true HK1.out.2.2 HK2.out.2.2
      have hC7' : ∀ X, Below W7.heap.size W7 X → (X.cell? ⟨W6.heap.size, 0, none⟩ = some (.slice an g.ns.length cn) ∧ X.cell? ⟨W6.heap.size, 1, none⟩ = some (.slice aw g.ws.length cw)) ∧ (X.cell? ⟨W4.heap.size, 0, none⟩ = some (.int .i64 r.v) ∧ X.cell? ⟨W4.heap.size, 1, none⟩ = some (.string r.fn) ∧ X.cell? ⟨W4.heap.size, 2, none⟩ = some (.slice ra r.args.length rc)) ∧ (X.cell? ⟨W5.heap.size, 0, none⟩ = some (.int .i64 r2.v) ∧ X.cell? ⟨W5.heap.size, 1, none⟩ = some (.string r2.fn) ∧ X.cell? ⟨W5.heap.size, 2, none⟩ = some (.slice ra2 r2.args.length rc2)) := fun X hX => ⟨(hC7 X hX).2.1, (hC7 X hX).2.2.1, (hC7 X hX).2.2.2.1⟩
      clear h9 hb6 hb67 hb57 o0 o1 p0' p1' p2' q0 q1 q2 hC7 m0 m1 m2 m3 m4 m5 m6 m7 HK1 HK2 HK2' hz4 hz5 hz6 hz4v hz5v hv1 hv2
      by_cases z1 : k1 = 0
      · by_cases z2 : k2 = 0
        · have h11r' := h11r z1 z2
          have HKT2 : Hid (lcmp g x y = 1 → lcmp g r r2 = 1) := HKT.out z1 z2
          subst z1 z2
          by_cases z3 : lcmp g x y = 1
          · rw [z3] at h11
            rw [HKT2.out z3] at h11r'
            clear z3 h11r HKT
            go_wp2_with fail
            refine (h11 _ (Below.refl _ _)).mono ?_
            rintro e W8 ⟨rfl, hb8⟩
            obtain ⟨⟨u0, u1⟩, ⟨u2, u3, u4⟩, u5, u6, u7⟩ := hC7' _ hb8
            go_wp2_with fail
            refine (h11r' _ hb8).mono ?_
            rintro e W9 ⟨rfl, hb9⟩
            go_wp2_with fail
            refine (h17' _ hb9).mono ?_
            rintro e W10 ⟨rfl, hb10⟩
            go_wp2
            go_ret
            exact ⟨rfl, hb10⟩
          · have e3 : (lcmp g x y != 1) = true := by rw [bne_iff_ne]; exact z3
            clear z3 h11r h11r' HKT HKT2
            go_wp2_with fail
            refine (h11 _ (Below.refl _ _)).mono ?_
            rintro e W8 ⟨rfl, hb8⟩
            go_wp2_with fail
            refine (h17' _ hb8).mono ?_
            rintro e W10 ⟨rfl, hb10⟩
            go_wp2
            go_ret
            exact ⟨rfl, hb10⟩
        · have e3 : (k2 != 0) = true := by rw [bne_iff_ne]; exact z2
          subst z1
          clear z2 h11r HKT
          go_wp2_with fail
          refine (h17' _ (Below.refl _ _)).mono ?_
          rintro e W10 ⟨rfl, hb10⟩
          go_wp2
          go_ret
          exact ⟨rfl, hb10⟩
      · have e3 : (k1 != 0) = true := by rw [bne_iff_ne]; exact z1
        clear z1 h11r HKT
        go_wp2_with fail
        refine (h17' _ (Below.refl _ _)).mono ?_
        rintro e W10 ⟨rfl, hb10⟩
        go_wp2
        go_ret
        exact ⟨rfl, hb10⟩

end Go.Proofs.Ytpahgmidofacaaa

/-
  Signatures that came in as arguments: how they lie in memory.
-/
namespace Go.Proofs.Ytpahgmidofacaaa
open Go.ChangeShapes Go.WideShapes Go.ChangeAt Go.RowKit

theorem Try.cells22 : Try.prog.cellsOf 22 = 1 := by kernel_rfl
theorem Try.cells23 : Try.prog.cellsOf 23 = 1 := by kernel_rfl
theorem Try.cells25 : Try.prog.cellsOf 25 = 2 := by kernel_rfl

theorem list2 {cs : List Value} (h : cs.length = 2) : ∃ c0 c1, cs = [c0, c1] := by
  match cs, h with
  | [c0, c1], _ => exact ⟨c0, c1, rfl⟩
theorem list1 {cs : List Value} (h : cs.length = 1) : ∃ c0, cs = [c0] := by
  match cs, h with
  | [c0], _ => exact ⟨c0, rfl⟩

theorem row_of {α : Type} [Inhabited α] {f : α → Value} {W : World} {a : Addr} {len cap : Nat} {P : α → Prop} (hl : len ≤ cap) (hm : cap ≤ 9223372036854775807) (h : ∀ i, i < len → ∃ x, W.cell? ((a.add i).add 0) = some (f x) ∧ P x) : ∃ l : List α, l.length = len ∧ RowAt f W (.slice (some a) len cap) l ∧ ∀ x ∈ l, P x := by
  by_cases h0 : len = 0
  · subst h0
    exact ⟨[], rfl, ⟨some a, cap, rfl, Nat.zero_le _, hm, fun h => absurd h (by simp)⟩, by simp⟩
  · obtain ⟨x0, hc0, _⟩ := h 0 (by omega)
    have hxb : ∃ b o, a = ⟨b, o, none⟩ := by
      obtain ⟨b, o, spot⟩ := a
      have hspot : spot = none := by simpa [Addr.add] using World.cell?_spot hc0
      exact ⟨b, o, by rw [hspot]⟩
    obtain ⟨b, o, rfl⟩ := hxb
    obtain ⟨e, he⟩ := Deep.choose_lt h
    have hlt : b < W.heap.size := by have := lt_of_cell hc0; simpa [Addr.add] using this
    have hlen : ((List.range len).map e).length = len := by simp
    refine ⟨(List.range len).map e, hlen, ⟨some ⟨b, o, none⟩, cap, by rw [hlen], by omega, hm, fun _ => ⟨b, o, hlt, rfl, fun i hi => ?_⟩⟩, fun x hx => ?_⟩
    · have hi' : i < len := by rwa [hlen] at hi
      have := (he i hi').1
      rw [addr_add, addr_add, Nat.add_zero] at this
      simpa using this
    · obtain ⟨i, hi, rfl⟩ := List.mem_map.1 hx
      exact (he i (List.mem_range.1 hi)).2

theorem strs_trod {H : Type} {enc : TypeId × Value → H} {W : World} {fuel : Nat} {v : Value} {x : DataW H × List MemPlace} (h : DataW.trod enc Try.prog W 0 (fun _ => true) true fuel 22 [v] = some x) : ∃ l, RowAt .string W v l ∧ ∀ s ∈ l, s.size ≤ maxLen := by
  rcases DataW.trod_slice Try.underlying22 h with ⟨hcs, hx⟩ | ⟨a, len, cap, elems, rest, n, rfl, hcs, hx, _, hl, hm, hel, hat, _⟩
  · simp only [List.cons.injEq, and_true] at hcs
    subst hcs
    exact ⟨[], ⟨none, 0, rfl, Nat.le_refl _, by decide, fun h => absurd h (by simp)⟩, by simp⟩
  · simp only [List.cons.injEq, and_true] at hcs
    subst hcs
    rw [Try.cells9] at hat
    have each : ∀ i, i < len → ∃ s : ByteArray, W.cell? ((a.add i).add 0) = some (.string s) ∧ s.size ≤ maxLen := by
      intro i hi
      have hi' := hat i hi
      rw [List.getElem?_eq_getElem (by omega)] at hi'
      obtain ⟨cs, hc, ht⟩ := Option.bind_eq_some_iff.1 hi'
      obtain ⟨_, hlen, hcell⟩ := World.cells?_some hc
      obtain ⟨c0, rfl⟩ := list1 hlen
      obtain ⟨s, e1, z1, w1⟩ := DataW.trod_string Try.underlying9 ht
      simp at e1
      subst e1
      exact ⟨s, by simpa using hcell 0 (by simp), w1⟩
    haveI : Inhabited ByteArray := ⟨⟨#[]⟩⟩
    obtain ⟨l, hlen, hr, hP⟩ := row_of (P := fun s : ByteArray => s.size ≤ maxLen) hl (by unfold maxLen at hm; omega) each
    exact ⟨l, hr, hP⟩

theorem ints_trod {H : Type} {enc : TypeId × Value → H} {W : World} {fuel : Nat} {v : Value} {x : DataW H × List MemPlace} (h : DataW.trod enc Try.prog W 0 (fun _ => true) true fuel 23 [v] = some x) : ∃ l : List Int, RowAt (.int .i64) W v l ∧ ∀ i ∈ l, (Lit.int .i64 i).wf = true := by
  rcases DataW.trod_slice Try.underlying23 h with ⟨hcs, hx⟩ | ⟨a, len, cap, elems, rest, n, rfl, hcs, hx, _, hl, hm, hel, hat, _⟩
  · simp only [List.cons.injEq, and_true] at hcs
    subst hcs
    exact ⟨[], ⟨none, 0, rfl, Nat.le_refl _, by decide, fun h => absurd h (by simp)⟩, by simp⟩
  · simp only [List.cons.injEq, and_true] at hcs
    subst hcs
    rw [Try.cells3] at hat
    have each : ∀ i, i < len → ∃ s : Int, W.cell? ((a.add i).add 0) = some (.int .i64 s) ∧ (Lit.int .i64 s).wf = true := by
      intro i hi
      have hi' := hat i hi
      rw [List.getElem?_eq_getElem (by omega)] at hi'
      obtain ⟨cs, hc, ht⟩ := Option.bind_eq_some_iff.1 hi'
      obtain ⟨_, hlen, hcell⟩ := World.cells?_some hc
      obtain ⟨c0, rfl⟩ := list1 hlen
      obtain ⟨s, e1, z1, w1⟩ := DataW.trod_int Try.underlying3 ht
      simp at e1
      subst e1
      exact ⟨s, by simpa using hcell 0 (by simp), w1⟩
    obtain ⟨l, hlen, hr, hP⟩ := row_of (P := fun s : Int => (Lit.int .i64 s).wf = true) hl (by unfold maxLen at hm; omega) each
    exact ⟨l, hr, hP⟩

set_option maxRecDepth 100000 in
/-- What is read of a signature that came in. -/
theorem sign_in {H : Type} {enc : TypeId × Value → H} {W : World} {base : Nat} {v : Value} {d : DataW H} {p : List MemPlace} (hv : Value.okWide Try.prog W .any base 25 v)
    (h : DataW.Trod enc Try.prog W 0 (fun _ => true) true 25 v d p) : ∃ g vn vw, v = gval vn vw ∧ SgAt W g vn vw := by
  obtain ⟨cs, rfl, hcs⟩ := okWide_struct Try.underlying25 hv
  obtain ⟨fuel, hf⟩ := h
  obtain ⟨xs, n, rfl, hx, hlen, hxs, hf⟩ := DataW.trod_struct Try.underlying25 hf
  rw [Try.cells25] at hlen
  obtain ⟨c0, c1, hcc⟩ := list2 hlen
  rw [hcc] at hf
  match xs, hxs, hx, hf with
  | [y0, y1], _, hx, hf =>
    have t0 : DataW.trod enc Try.prog W 0 (fun _ => true) true n 22 (List.take (Try.prog.cellsOf 22) (List.drop 0 [c0, c1])) = some y0 := hf 0 _ rfl
    have t1 : DataW.trod enc Try.prog W 0 (fun _ => true) true n 23 (List.take (Try.prog.cellsOf 23) (List.drop 1 [c0, c1])) = some y1 := hf 1 _ rfl
    rw [Try.cells22] at t0
    rw [Try.cells23] at t1
    obtain ⟨l, h1, h2⟩ := strs_trod (v := c0) t0
    obtain ⟨m, h3, _⟩ := ints_trod (v := c1) t1
    refine ⟨⟨l, m⟩, c0, c1, ?_, ⟨h1, h3, h2⟩⟩
    obtain ⟨cl⟩ := cs
    have h2 : cl = [c0, c1] := hcc
    rw [h2]

end Go.Proofs.Ytpahgmidofacaaa
