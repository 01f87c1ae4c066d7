/-
  MultiThrough's walk.
-/
import Derived.Test.YtglphfhlpobgcaaGreatYR
namespace Go.Proofs.YtglphfhlpobgcaaGreat
open Go.RowKit Go.Maps

theorem cls_rng (o : Od) (a b c : List Lt) : (clsR o a b = 2 ∧ clsR o b a = 2) ∨ (clsR o a b = 0 ∧ clsR o b a = 0) ∨ (clsR o a b = -1 ∧ clsR o b a = 1) ∨ (clsR o a b = 1 ∧ clsR o b a = -1 ∧ (clsR o b c = 1 → clsR o a c = 1)) := by
  by_cases h : o.g.Ok ∧ crightW a = 0 ∧ crightW b = 0
  · have h' : o.g.Ok ∧ crightW b = 0 ∧ crightW a = 0 := ⟨h.1, h.2.2, h.2.1⟩
    have e1 : clsR o a b = ccm o a b := by unfold clsR; rw [if_pos h]
    have e2 : clsR o b a = ccm o b a := by unfold clsR; rw [if_pos h']
    rw [e1, e2]
    rcases mcmp_turn (gL_irr o) (gL_tr o) (a.map kap) (b.map kap) with k | k
    · exact .inl k
    · have k1 : ccm o a b ≠ 2 := k.1
      have k2 : ccm o b a = - ccm o a b := k.2
      rcases mcmp_rng (gL o) (a.map kap) (b.map kap) with q | q | q | q
      · have q' : ccm o a b = 0 := q
        exact .inr (.inl ⟨q', by rw [k2, q']; rfl⟩)
      · have q' : ccm o a b = 1 := q
        refine .inr (.inr (.inr ⟨q', by rw [k2, q'], fun r => ?_⟩))
        by_cases h2 : o.g.Ok ∧ crightW b = 0 ∧ crightW c = 0
        · have e3 : clsR o b c = ccm o b c := by unfold clsR; rw [if_pos h2]
          have e4 : clsR o a c = ccm o a c := by unfold clsR; rw [if_pos ⟨h.1, h.2.1, h2.2.2⟩]
          rw [e3] at r
          rw [e4]
          exact mcmp_trans (gL_irr o) (gL_tr o) q r
        · have e3 : clsR o b c = 2 := by unfold clsR; rw [if_neg h2]
          rw [e3] at r; omega
      · have q' : ccm o a b = -1 := q
        exact .inr (.inr (.inl ⟨q', by rw [k2, q']; rfl⟩))
      · exact absurd q k1
  · have e1 : clsR o a b = 2 := by unfold clsR; rw [if_neg h]
    have e2 : clsR o b a = 2 := by unfold clsR; rw [if_neg (fun k => h ⟨k.1, k.2.2, k.2.1⟩)]
    exact .inl ⟨e1, e2⟩
theorem lit_rng (o : Od) (a b c : Lt) : (litR o a b = 2 ∧ litR o b a = 2) ∨ (litR o a b = 0 ∧ litR o b a = 0) ∨ (litR o a b = -1 ∧ litR o b a = 1) ∨ (litR o a b = 1 ∧ litR o b a = -1 ∧ (litR o b c = 1 → litR o a c = 1)) := by
  by_cases h : o.g.Ok ∧ (a.l.rightW = 0 ∧ a.r.rightW = 0) ∧ b.l.rightW = 0 ∧ b.r.rightW = 0
  · have e1 : litR o a b = lcm o a b := by unfold litR; rw [if_pos h]
    have e2 : litR o b a = lcm o b a := by unfold litR; rw [if_pos ⟨h.1, h.2.2, h.2.1⟩]
    rw [e1, e2]
    rcases mcmp_turn (gT_irr o) (gT_tr o) (sds a) (sds b) with k | k
    · exact .inl k
    · have k1 : lcm o a b ≠ 2 := k.1
      have k2 : lcm o b a = - lcm o a b := k.2
      rcases mcmp_rng (gT o) (sds a) (sds b) with q | q | q | q
      · have q' : lcm o a b = 0 := q
        exact .inr (.inl ⟨q', by rw [k2, q']; rfl⟩)
      · have q' : lcm o a b = 1 := q
        refine .inr (.inr (.inr ⟨q', by rw [k2, q'], fun r => ?_⟩))
        by_cases h2 : o.g.Ok ∧ (b.l.rightW = 0 ∧ b.r.rightW = 0) ∧ c.l.rightW = 0 ∧ c.r.rightW = 0
        · have e3 : litR o b c = lcm o b c := by unfold litR; rw [if_pos h2]
          have e4 : litR o a c = lcm o a c := by unfold litR; rw [if_pos ⟨h.1, h.2.1, h2.2.2⟩]
          rw [e3] at r
          rw [e4]
          exact mcmp_trans (gT_irr o) (gT_tr o) q r
        · have e3 : litR o b c = 2 := by unfold litR; rw [if_neg h2]
          rw [e3] at r; omega
      · have q' : lcm o a b = -1 := q
        exact .inr (.inr (.inl ⟨q', by rw [k2, q']; rfl⟩))
      · exact absurd q k1
  · have e1 : litR o a b = 2 := by unfold litR; rw [if_neg h]
    have e2 : litR o b a = 2 := by unfold litR; rw [if_neg (fun k => h ⟨k.1, k.2.2, k.2.1⟩)]
    exact .inl ⟨e1, e2⟩
/-- The five ways four answers can be. -/
theorem five {x y z t : Int} (h : (x = 2 ∧ t = 2) ∨ (x = 0 ∧ t = 0) ∨ (x = -1 ∧ t = 1) ∨ (x = 1 ∧ t = -1 ∧ (y = 1 → z = 1))) :
    (x = 2 ∧ t = 2) ∨ (x = 0 ∧ t = 0) ∨ (x = -1 ∧ t = 1) ∨ (x = 1 ∧ t = -1 ∧ y = 1 ∧ z = 1) ∨ (x = 1 ∧ t = -1 ∧ ¬ y = 1 ∧ (y == 1) = false ∧ (y != 1) = true) := by
  rcases h with h | h | h | ⟨h1, h2, h3⟩
  · exact .inl h
  · exact .inr (.inl h)
  · exact .inr (.inr (.inl h))
  · by_cases hy : y = 1
    · exact .inr (.inr (.inr (.inl ⟨h1, h2, hy, h3 hy⟩)))
    · exact .inr (.inr (.inr (.inr ⟨h1, h2, hy, by rw [beq_eq_false_iff_ne]; exact hy, by rw [bne_iff_ne]; exact hy⟩)))
theorem rowC_three (_W : World) (x y z : List Lt × Value) : (flC [x, y, z]).toArray = #[x.2, y.2, z.2] := rfl

set_option maxRecDepth 100000 in
set_option maxHeartbeats 16000000 in
theorem through_any (o : Od) (vn vw : Value) (a b c : List Lt) (va vb vc : Value) (w : World) (hg : SgAt w o.g vn vw) (ha : OkC w (a, va)) (hb : OkC w (b, vb)) (hc : OkC w (c, vc)) :
    Calls Tryz.prog 6 #[oval o vn vw, va, vb, vc] w fun e w' => e = .returned (.bool true) ∧ Below w.heap.size w w' := by
  have ho := odAt_of hg
  obtain ⟨W1, h1⟩ : ∃ X, w.alloc (.cells #[.bool o.path, vn, vw] 27) = X := ⟨_, rfl⟩
  have b1 : Below w.heap.size w W1 := by rw [← h1]; exact below_box _ _
  have s1 : W1.heap.size = w.heap.size + 1 := by rw [← h1]; simp
  obtain ⟨o0, o1, o2⟩ := obox_cells w (.bool o.path) vn vw 27
  rw [h1] at o0 o1 o2
  obtain ⟨W2, h2⟩ : ∃ X, W1.alloc (.cells #[va, vb, vc] 35) = X := ⟨_, rfl⟩
  have b2 : Below W1.heap.size W1 W2 := by rw [← h2]; exact below_box _ _
  have b12 : Below w.heap.size w W2 := b1.trans (b2.mono b1.size)
  have hrow := rowC_built W1 [(a, va), (b, vb), (c, vc)] (by simp)
  rw [rowC_three W1, h2, show [(a, va), (b, vb), (c, vc)].length = 3 from rfl, s1] at hrow
  have hli := light_any w [(a, va), (b, vb), (c, vc)] _ W2 b12 (rdC_of_row (ps := [(a, va), (b, vb), (c, vc)]) hrow (by
    intro p hp
    simp only [List.mem_cons, List.not_mem_nil, or_false] at hp
    rcases hp with rfl | rfl | rfl
    · exact ha
    · exact hb
    · exact hc))
  obtain ⟨qas, ea, ra⟩ : ∃ qs : List (Lt × Value × Value), qs.map (·.1) = a ∧ RdL w w va qs := rdL_of_clause ha.1 ha.2
  obtain ⟨qbs, eb, rb⟩ : ∃ qs : List (Lt × Value × Value), qs.map (·.1) = b ∧ RdL w w vb qs := rdL_of_clause hb.1 hb.2
  obtain ⟨qcs, ec, rc⟩ : ∃ qs : List (Lt × Value × Value), qs.map (·.1) = c ∧ RdL w w vc qs := rdL_of_clause hc.1 hc.2
  have la : qas.length = a.length := by rw [← ea, List.length_map]
  have lb : qbs.length = b.length := by rw [← eb, List.length_map]
  have lc : qcs.length = c.length := by rw [← ec, List.length_map]
  have HAl : Hid (∀ Z, Below w.heap.size w Z → Calls Tryz.prog 9 #[] Z fun e Z' => e = .returned (.bool true) ∧ Below w.heap.size w Z') := fun Z hZ => (alive9_any Z).mono fun e Z' ⟨h1, h2⟩ => ⟨h1, hZ.trans (h2.mono hZ.size)⟩
  have HOw : Hid (∀ Z, Below w.heap.size w Z → Calls Tryz.prog 10 #[oval o vn vw] Z fun e Z' => e = .returned (oval o vn vw) ∧ Below Z.heap.size Z Z') := fun Z _ => own9_any o vn vw ho.vn ho.vw Z
  have HCl : Hid (∀ Z, Below w.heap.size w Z → (Calls Tryz.prog 15 #[oval o vn vw, va, vb] Z fun e Z' => e = .returned (.int .i64 (clsR o a b)) ∧ Below Z.heap.size Z Z') ∧ (Calls Tryz.prog 15 #[oval o vn vw, vb, vc] Z fun e Z' => e = .returned (.int .i64 (clsR o b c)) ∧ Below Z.heap.size Z Z') ∧ (Calls Tryz.prog 15 #[oval o vn vw, va, vc] Z fun e Z' => e = .returned (.int .i64 (clsR o a c)) ∧ Below Z.heap.size Z Z') ∧ Calls Tryz.prog 15 #[oval o vn vw, vb, va] Z fun e Z' => e = .returned (.int .i64 (clsR o b a)) ∧ Below Z.heap.size Z Z') := fun Z hZ => ⟨oclauses_any w o vn vw ho a b va vb ha hb Z hZ, oclauses_any w o vn vw ho b c vb vc hb hc Z hZ, oclauses_any w o vn vw ho a c va vc ha hc Z hZ, oclauses_any w o vn vw ho b a vb va hb ha Z hZ⟩
  have HLi : Hid (∀ (p q : Lt × Value × Value) Z, OkL w p → OkL w q → Below w.heap.size w Z → Calls Tryz.prog 13 #[oval o vn vw, lval p.1 p.2.1 p.2.2, lval q.1 q.2.1 q.2.2] Z fun e Z' => e = .returned (.int .i64 (litR o p.1 q.1)) ∧ Below Z.heap.size Z Z') := fun p q Z hp hq hZ => olits_any w o vn vw ho p q hp hq Z hZ
  obtain ⟨x1, ex1⟩ : ∃ x, clsR o a b = x := ⟨_, rfl⟩
  obtain ⟨y1, ey1⟩ : ∃ x, clsR o b c = x := ⟨_, rfl⟩
  obtain ⟨z1, ez1⟩ : ∃ x, clsR o a c = x := ⟨_, rfl⟩
  obtain ⟨t1, et1⟩ : ∃ x, clsR o b a = x := ⟨_, rfl⟩
  have HM := cls_rng o a b c
  rw [ex1, ey1, ez1, et1] at HM HCl
  have H5 : Hid ((x1 = 2 ∧ t1 = 2) ∨ (x1 = 0 ∧ t1 = 0) ∨ (x1 = -1 ∧ t1 = 1) ∨ (x1 = 1 ∧ t1 = -1 ∧ y1 = 1 ∧ z1 = 1) ∨ (x1 = 1 ∧ t1 = -1 ∧ ¬ y1 = 1 ∧ (y1 == 1) = false ∧ (y1 != 1) = true)) := five HM
  have HB : Hid (Below w.heap.size w W1 ∧ Below w.heap.size w W2 ∧ Below W1.heap.size W1 W2) := ⟨b1, b12, b2⟩
  have HR : Hid (RdL w w va qas ∧ RdL w w vb qbs ∧ RdL w w vc qcs ∧ qas.length = a.length ∧ qbs.length = b.length ∧ qcs.length = c.length) := ⟨ra, rb, rc, la, lb, lc⟩
  obtain ⟨an, nn, cn, rfl⟩ := ho.vn
  obtain ⟨aw, nw, cw, rfl⟩ := ho.vw
  simp only [OkC] at ha hb hc
  obtain ⟨aa, ac, rfl⟩ := ha.1.slice
  obtain ⟨ba, bc, rfl⟩ := hb.1.slice
  obtain ⟨ca, cc, rfl⟩ := hc.1.slice

  clear ex1 ey1 ez1 et1 HM ra rb rc la lb lc ea eb ec hrow ha hb hc hg ho b1 b2 b12
  go_enter Tryz.func6, Tryz.ntmps6
  try rw [h1]
  go_wp2_with fail
  try rw [h1]
  try rw [h2]
  try rw [s1]
  refine hli.mono ?_
  rintro e W3 ⟨⟨bl, rfl⟩, b3⟩
  have b03 : Below w.heap.size w W3 := HB.out.2.1.trans (b3.mono HB.out.2.1.size)
  have b13 : Below W1.heap.size W1 W3 := HB.out.2.2.trans (b3.mono HB.out.2.2.size)
  have p0 := kc b13 (by omega) o0
  have p1 := kc b13 (by omega) o1
  have p2 := kc b13 (by omega) o2
  have hal := HAl.out W3 b03
  have how := HOw.out W3 b03
  clear b3 b13 o0 o1 o2 hli
  cases bl
  · go_wp2_with fail
    refine hal.mono ?_
    rintro e W4 ⟨rfl, b4⟩
    go_wp2
    go_ret
    exact ⟨rfl, b4⟩
  · clear hal
    go_wp2_with fail
    refine how.mono ?_
    rintro e W4 ⟨rfl, b4⟩
    obtain ⟨Wz, hz⟩ : ∃ X, W4.alloc (.cells #[.bool false, .slice none 0 0, .slice none 0 0] 40) = X := ⟨_, rfl⟩
    have bz : Below W4.heap.size W4 Wz := by rw [← hz]; exact below_box _ _
    have hzz : Wz.heap[W4.heap.size]? = some (.cells #[.bool false, .slice none 0 0, .slice none 0 0] 40 (0, 0)) := by rw [← hz]; exact (MapKept.heap_alloc _ _).1
    obtain ⟨W5, hrun, hx5, hon⟩ := ost_run Wz W4.heap.size o.path (.slice an nn cn) (.slice aw nw cw) hzz ⟨_, _, _, rfl⟩ ⟨_, _, _, rfl⟩
    have b45 : Below W4.heap.size W4 W5 := bz.trans (hon.below bz.size (by simp))
    have b04 : Below w.heap.size w W4 := b03.trans (b4.mono b03.size)
    have b05 : Below w.heap.size w W5 := b04.trans (b45.mono b04.size)
    have s5 : W4.heap.size < W5.heap.size := by
      have := hon.size
      have : Wz.heap.size = W4.heap.size + 1 := by rw [← hz]; simp
      omega
    obtain ⟨bo, hbo⟩ : ∃ n, W4.heap.size = n := ⟨_, rfl⟩
    rw [hbo] at hx5 hrun s5
    have HO : Hid (∀ Z, Below W5.heap.size W5 Z → Z.cell? ⟨bo, 0, none⟩ = some (.bool o.path) ∧ Z.cell? ⟨bo, 1, none⟩ = some (.slice an nn cn) ∧ Z.cell? ⟨bo, 2, none⟩ = some (.slice aw nw cw)) := fun Z hZ => ⟨kc hZ s5 hx5.1, kc hZ s5 hx5.2.1, kc hZ s5 hx5.2.2⟩
    have HB5 : Hid (Below w.heap.size w W5) := b05
    clear b4 bz hzz hon b45 b04 b05 p0 p1 p2 how b03 hx5 s5
    obtain ⟨Wd1, hW1⟩ : ∃ X, W5.drew = X := ⟨_, rfl⟩
    obtain ⟨n1, hn1⟩ : ∃ n, Wd1.heap.size = n := ⟨_, rfl⟩
    have hd1 : Below W5.heap.size W5 Wd1 := by rw [← hW1]; exact (Below.refl _ W5).drew
    have hsd1 : Wd1.heap.size = W5.heap.size := by rw [← hW1]; rfl
    have hB1 : Below n1 W5.drew W5.drew := Below.refl _ _
    have HN1 : Hid (Wd1.heap.size = n1) := hn1
    have HD1 : Hid (∀ Z, Below n1 Wd1 Z → Below w.heap.size w Z ∧ Below W5.heap.size W5 Z) := fun Z hZ => by
      have e : Below W5.heap.size W5 Z := hd1.trans (hZ.mono (by omega))
      exact ⟨HB5.out.trans (e.mono HB5.out.size), e⟩
    have HX1 : Hid ((∀ Z, Below n1 Wd1 Z → Calls Tryz.prog 15 #[oval o (.slice an nn cn) (.slice aw nw cw), .slice aa a.length ac, .slice ba b.length bc] Z fun e Z' => e = .returned (.int .i64 x1) ∧ Below Z.heap.size Z Z') ∧ (∀ Z, Below n1 Wd1 Z → Calls Tryz.prog 15 #[oval o (.slice an nn cn) (.slice aw nw cw), .slice ba b.length bc, .slice ca c.length cc] Z fun e Z' => e = .returned (.int .i64 y1) ∧ Below Z.heap.size Z Z') ∧ (∀ Z, Below n1 Wd1 Z → Calls Tryz.prog 15 #[oval o (.slice an nn cn) (.slice aw nw cw), .slice aa a.length ac, .slice ca c.length cc] Z fun e Z' => e = .returned (.int .i64 z1) ∧ Below Z.heap.size Z Z') ∧ ∀ Z, Below n1 Wd1 Z → Calls Tryz.prog 15 #[oval o (.slice an nn cn) (.slice aw nw cw), .slice ba b.length bc, .slice aa a.length ac] Z fun e Z' => e = .returned (.int .i64 t1) ∧ Below Z.heap.size Z Z') := ⟨fun Z hZ => (HCl.out Z (HD1.out Z hZ).1).1, fun Z hZ => (HCl.out Z (HD1.out Z hZ).1).2.1, fun Z hZ => (HCl.out Z (HD1.out Z hZ).1).2.2.1, fun Z hZ => (HCl.out Z (HD1.out Z hZ).1).2.2.2⟩
    have qo1 : ∀ Z, Below n1 Wd1 Z → Z.cell? ⟨bo, 0, none⟩ = some (.bool o.path) ∧ Z.cell? ⟨bo, 1, none⟩ = some (.slice an nn cn) ∧ Z.cell? ⟨bo, 2, none⟩ = some (.slice aw nw cw) := fun Z hZ => HO.out Z (HD1.out Z hZ).2
    clear hn1 hd1 hsd1
    go_wp2_with (first | (refine wpList_store_run rfl 40 _ _ rfl (.pointer (some ⟨bo, 0, none⟩)) (oval o (.slice an nn cn) (.slice aw nw cw)) rfl rfl hrun ?_))
    try rw [hz]
    refine wp_region_held_drew (S := fun Z => Below n1 W5.drew Z) (by kernel_rfl) hB1 (fun hHeld10 => ?_)
    rw [hW1] at hHeld10 ⊢
    refine take_mk 0 (oval o (.slice an nn cn) (.slice aw nw cw)) rfl (by kernel_rfl) (by kernel_rfl) (by kernel_rfl) (fun _ _ _ h => h) (Or.inl ⟨by rfl, fun Z hZ => by obtain ⟨y0, y1, y2⟩ := qo1 Z hZ; go_simp⟩) (by assumption) ?_
    try simp only [Act.put, List.setIfInBounds_toArray, List.set_cons_zero, List.set_cons_succ]
    refine take_mk 1 (.slice aa a.length ac) rfl (by kernel_rfl) (by kernel_rfl) (by kernel_rfl) (fun _ _ _ h => h) (Or.inl ⟨by rfl, fun Z hZ => by go_simp⟩) (by assumption) ?_
    try simp only [Act.put, List.setIfInBounds_toArray, List.set_cons_zero, List.set_cons_succ]
    refine take_mk 2 (.slice ba b.length bc) rfl (by kernel_rfl) (by kernel_rfl) (by kernel_rfl) (fun _ _ _ h => h) (Or.inl ⟨by rfl, fun Z hZ => by go_simp⟩) (by assumption) ?_
    try simp only [Act.put, List.setIfInBounds_toArray, List.set_cons_zero, List.set_cons_succ]
    refine take_mk 4 (oval o (.slice an nn cn) (.slice aw nw cw)) rfl (by kernel_rfl) (by kernel_rfl) (by kernel_rfl) (fun _ _ _ h => h) (Or.inl ⟨by rfl, fun Z hZ => by obtain ⟨y0, y1, y2⟩ := qo1 Z hZ; go_simp⟩) (by assumption) ?_
    try simp only [Act.put, List.setIfInBounds_toArray, List.set_cons_zero, List.set_cons_succ]
    refine take_mk 5 (.slice ba b.length bc) rfl (by kernel_rfl) (by kernel_rfl) (by kernel_rfl) (fun _ _ _ h => h) (Or.inl ⟨by rfl, fun Z hZ => by go_simp⟩) (by assumption) ?_
    try simp only [Act.put, List.setIfInBounds_toArray, List.set_cons_zero, List.set_cons_succ]
    refine take_mk 6 (.slice ca c.length cc) rfl (by kernel_rfl) (by kernel_rfl) (by kernel_rfl) (fun _ _ _ h => h) (Or.inl ⟨by rfl, fun Z hZ => by go_simp⟩) (by assumption) ?_
    try simp only [Act.put, List.setIfInBounds_toArray, List.set_cons_zero, List.set_cons_succ]
    refine take_mk 8 (oval o (.slice an nn cn) (.slice aw nw cw)) rfl (by kernel_rfl) (by kernel_rfl) (by kernel_rfl) (fun _ _ _ h => h) (Or.inl ⟨by rfl, fun Z hZ => by obtain ⟨y0, y1, y2⟩ := qo1 Z hZ; go_simp⟩) (by assumption) ?_
    try simp only [Act.put, List.setIfInBounds_toArray, List.set_cons_zero, List.set_cons_succ]
    refine take_mk 9 (.slice aa a.length ac) rfl (by kernel_rfl) (by kernel_rfl) (by kernel_rfl) (fun _ _ _ h => h) (Or.inl ⟨by rfl, fun Z hZ => by go_simp⟩) (by assumption) ?_
    try simp only [Act.put, List.setIfInBounds_toArray, List.set_cons_zero, List.set_cons_succ]
    refine take_mk 10 (.slice ca c.length cc) rfl (by kernel_rfl) (by kernel_rfl) (by kernel_rfl) (fun _ _ _ h => h) (Or.inl ⟨by rfl, fun Z hZ => by go_simp⟩) (by assumption) ?_
    try simp only [Act.put, List.setIfInBounds_toArray, List.set_cons_zero, List.set_cons_succ]
    refine take_mk 12 (oval o (.slice an nn cn) (.slice aw nw cw)) rfl (by kernel_rfl) (by kernel_rfl) (by kernel_rfl) (fun _ _ _ h => h) (Or.inl ⟨by rfl, fun Z hZ => by obtain ⟨y0, y1, y2⟩ := qo1 Z hZ; go_simp⟩) (by assumption) ?_
    try simp only [Act.put, List.setIfInBounds_toArray, List.set_cons_zero, List.set_cons_succ]
    refine take_mk 13 (.slice ba b.length bc) rfl (by kernel_rfl) (by kernel_rfl) (by kernel_rfl) (fun _ _ _ h => h) (Or.inl ⟨by rfl, fun Z hZ => by go_simp⟩) (by assumption) ?_
    try simp only [Act.put, List.setIfInBounds_toArray, List.set_cons_zero, List.set_cons_succ]
    refine take_mk 14 (.slice aa a.length ac) rfl (by kernel_rfl) (by kernel_rfl) (by kernel_rfl) (fun _ _ _ h => h) (Or.inl ⟨by rfl, fun Z hZ => by go_simp⟩) (by assumption) ?_
    try simp only [Act.put, List.setIfInBounds_toArray, List.set_cons_zero, List.set_cons_succ]
    refine wpAnyH_ready (rs := [3]) (by kernel_rfl) (by simp) (AllReadyH.cons (o := ⟨_, _, _, _, _, _⟩) rfl (fun K hK => ?_) AllReadyH.nil)
    rw [if_pos (by rfl)]
    go_simp
    refine (HX1.out.1 _ hHeld10).mono ?_
    rintro e X10 ⟨rfl, d⟩
    have hHeld11 : Below n1 Wd1 X10 := hHeld10.trans (d.mono (by have := hHeld10.size; have := HN1.out; omega))
    refine hK.out _ _ hHeld11 (fun _ => ?_)
    clear hK K d
    try simp only [Act.put, List.setIfInBounds_toArray, List.set_cons_zero, List.set_cons_succ]
    refine wpAnyH_ready (rs := [7]) (by kernel_rfl) (by simp) (AllReadyH.cons (o := ⟨_, _, _, _, _, _⟩) rfl (fun K hK => ?_) AllReadyH.nil)
    rw [if_pos (by rfl)]
    go_simp
    refine (HX1.out.2.1 _ hHeld11).mono ?_
    rintro e X11 ⟨rfl, d⟩
    have hHeld12 : Below n1 Wd1 X11 := hHeld11.trans (d.mono (by have := hHeld11.size; have := HN1.out; omega))
    refine hK.out _ _ hHeld12 (fun _ => ?_)
    clear hK K d
    try simp only [Act.put, List.setIfInBounds_toArray, List.set_cons_zero, List.set_cons_succ]
    refine wpAnyH_ready (rs := [11]) (by kernel_rfl) (by simp) (AllReadyH.cons (o := ⟨_, _, _, _, _, _⟩) rfl (fun K hK => ?_) AllReadyH.nil)
    rw [if_pos (by rfl)]
    go_simp
    refine (HX1.out.2.2.1 _ hHeld12).mono ?_
    rintro e X12 ⟨rfl, d⟩
    have hHeld13 : Below n1 Wd1 X12 := hHeld12.trans (d.mono (by have := hHeld12.size; have := HN1.out; omega))
    refine hK.out _ _ hHeld13 (fun _ => ?_)
    clear hK K d
    try simp only [Act.put, List.setIfInBounds_toArray, List.set_cons_zero, List.set_cons_succ]
    refine wpAnyH_ready (rs := [15]) (by kernel_rfl) (by simp) (AllReadyH.cons (o := ⟨_, _, _, _, _, _⟩) rfl (fun K hK => ?_) AllReadyH.nil)
    rw [if_pos (by rfl)]
    go_simp
    refine (HX1.out.2.2.2 _ hHeld13).mono ?_
    rintro e X13 ⟨rfl, d⟩
    have hHeld14 : Below n1 Wd1 X13 := hHeld13.trans (d.mono (by have := hHeld13.size; have := HN1.out; omega))
    refine hK.out _ _ hHeld14 (fun _ => ?_)
    clear hK K d
    try simp only [Act.put, List.setIfInBounds_toArray, List.set_cons_zero, List.set_cons_succ]
    refine take_mk 16 (.int .i64 x1) rfl (by kernel_rfl) (by kernel_rfl) (by kernel_rfl) (fun _ _ _ h => h) (Or.inl ⟨by rfl, fun Z hZ => by go_simp⟩) (by assumption) ?_
    try simp only [Act.put, List.setIfInBounds_toArray, List.set_cons_zero, List.set_cons_succ]
    refine take_mk 17 (.int .i64 y1) rfl (by kernel_rfl) (by kernel_rfl) (by kernel_rfl) (fun _ _ _ h => h) (Or.inl ⟨by rfl, fun Z hZ => by go_simp⟩) (by assumption) ?_
    try simp only [Act.put, List.setIfInBounds_toArray, List.set_cons_zero, List.set_cons_succ]
    refine take_mk 18 (.int .i64 z1) rfl (by kernel_rfl) (by kernel_rfl) (by kernel_rfl) (fun _ _ _ h => h) (Or.inl ⟨by rfl, fun Z hZ => by go_simp⟩) (by assumption) ?_
    try simp only [Act.put, List.setIfInBounds_toArray, List.set_cons_zero, List.set_cons_succ]
    refine take_mk 19 (.int .i64 t1) rfl (by kernel_rfl) (by kernel_rfl) (by kernel_rfl) (fun _ _ _ h => h) (Or.inl ⟨by rfl, fun Z hZ => by go_simp⟩) (by assumption) ?_
    try simp only [Act.put, List.setIfInBounds_toArray, List.set_cons_zero, List.set_cons_succ]
    refine wpAnyH_done (by kernel_rfl) ?_ _
    try simp only [Act.put]
    have HE1 : Hid (Below n1 Wd1 X13) := hHeld14
    clear hHeld10 hHeld11 hHeld12 hHeld13 hHeld14
    have HW6 : Hid (Below w.heap.size w X13 ∧ Below W5.heap.size W5 X13) := HD1.out _ HE1.out
    clear hrun qo1 HE1 hB1 HX1
    generalize X13 = W6 at *
    have HE4 : ((a.length : Int) == 0) = true ∨ (((a.length : Int) == 0) = false ∧ ((b.length : Int) == 0) = true) ∨ ((((a.length : Int) == 0) = false ∧ ((b.length : Int) == 0) = false) ∧ ((c.length : Int) == 0) = true) ∨ ((((a.length : Int) == 0) = false ∧ ((b.length : Int) == 0) = false) ∧ ((c.length : Int) == 0) = false ∧ Hid (0 < a.length ∧ 0 < b.length ∧ 0 < c.length)) := by
      by_cases e1 : a.length = 0
      · exact .inl (by rw [e1]; rfl)
      · have f1 : ((a.length : Int) == 0) = false := by rw [beq_eq_false_iff_ne]; omega
        by_cases e2 : b.length = 0
        · exact .inr (.inl ⟨f1, by rw [e2]; rfl⟩)
        · have f2 : ((b.length : Int) == 0) = false := by rw [beq_eq_false_iff_ne]; omega
          by_cases e3 : c.length = 0
          · exact .inr (.inr (.inl ⟨⟨f1, f2⟩, by rw [e3]; rfl⟩))
          · exact .inr (.inr (.inr ⟨⟨f1, f2⟩, by rw [beq_eq_false_iff_ne]; omega, ⟨by omega, by omega, by omega⟩⟩))
    rcases HE4 with f1 | ⟨f1, f2⟩ | ⟨⟨f1, f2⟩, f3⟩ | ⟨⟨f1, f2⟩, f3, HP⟩
    case' inr.inr.inr =>
      obtain ⟨ra0, rb0, rc0, la0, lb0, lc0⟩ := HR.out
      have HW := HW6.out
      have ra := ra0.keep HW.1
      have rb := rb0.keep HW.1
      have rc := rc0.keep HW.1
      obtain ⟨hpa, hpb, hpc⟩ := HP.out
      obtain ⟨bka, ofa, rfl, hla, csa, oka⟩ := ra.nth (i := 0) (by omega)
      obtain ⟨qa0, hqa⟩ : ∃ q, qas[0]'(by omega) = q := ⟨_, rfl⟩
      rw [hqa] at csa oka
      obtain ⟨la, sa1, sa2⟩ := qa0
      have okka := oka
      simp only [OkL] at okka
      obtain ⟨la1, la2, rfl, _, _⟩ := okka.1.1.slice
      obtain ⟨la3, la4, rfl, _, _⟩ := okka.1.2.slice
      clear okka
      obtain ⟨bkb, ofb, rfl, hlb, csb, okb⟩ := rb.nth (i := 0) (by omega)
      obtain ⟨qb0, hqb⟩ : ∃ q, qbs[0]'(by omega) = q := ⟨_, rfl⟩
      rw [hqb] at csb okb
      obtain ⟨lb, sb1, sb2⟩ := qb0
      have okkb := okb
      simp only [OkL] at okkb
      obtain ⟨lb1, lb2, rfl, _, _⟩ := okkb.1.1.slice
      obtain ⟨lb3, lb4, rfl, _, _⟩ := okkb.1.2.slice
      clear okkb
      obtain ⟨bkc, ofc, rfl, hlc, csc, okc⟩ := rc.nth (i := 0) (by omega)
      obtain ⟨qc0, hqc⟩ : ∃ q, qcs[0]'(by omega) = q := ⟨_, rfl⟩
      rw [hqc] at csc okc
      obtain ⟨lc, sc1, sc2⟩ := qc0
      have okkc := okc
      simp only [OkL] at okkc
      obtain ⟨lc1, lc2, rfl, _, _⟩ := okkc.1.1.slice
      obtain ⟨lc3, lc4, rfl, _, _⟩ := okkc.1.2.slice
      clear okkc
      obtain ⟨Wd2, hW2⟩ : ∃ X, W6.drew = X := ⟨_, rfl⟩
      obtain ⟨n2, hn2⟩ : ∃ n, Wd2.heap.size = n := ⟨_, rfl⟩
      have hd2 : Below W6.heap.size W6 Wd2 := by rw [← hW2]; exact (Below.refl _ W6).drew
      have hsd2 : Wd2.heap.size = W6.heap.size := by rw [← hW2]; rfl
      have hB2 : Below n2 W6.drew W6.drew := Below.refl _ _
      have HN2 : Hid (Wd2.heap.size = n2) := hn2
      have HD2 : Hid (∀ Z, Below n2 Wd2 Z → Below w.heap.size w Z ∧ Below W5.heap.size W5 Z ∧ Below W6.heap.size W6 Z) := fun Z hZ => by
        have e : Below W6.heap.size W6 Z := hd2.trans (hZ.mono (by omega))
        exact ⟨HW.1.trans (e.mono HW.1.size), HW.2.trans (e.mono HW.2.size), e⟩
      have hL := fun (p q : Lt × Value × Value) (hp : OkL w p) (hq : OkL w q) (Z : World) (hZ : Below n2 Wd2 Z) => HLi.out p q Z hp hq (HD2.out Z hZ).1
      obtain ⟨x2, ex2⟩ : ∃ x, litR o la lb = x := ⟨_, rfl⟩
      obtain ⟨y2, ey2⟩ : ∃ x, litR o lb lc = x := ⟨_, rfl⟩
      obtain ⟨z2, ez2⟩ : ∃ x, litR o la lc = x := ⟨_, rfl⟩
      obtain ⟨t2, et2⟩ : ∃ x, litR o lb la = x := ⟨_, rfl⟩
      have HX2 : Hid ((∀ Z, Below n2 Wd2 Z → Calls Tryz.prog 13 #[oval o (.slice an nn cn) (.slice aw nw cw), lval la (.slice la1 la.l.args.length la2) (.slice la3 la.r.args.length la4), lval lb (.slice lb1 lb.l.args.length lb2) (.slice lb3 lb.r.args.length lb4)] Z fun e Z' => e = .returned (.int .i64 x2) ∧ Below Z.heap.size Z Z') ∧ (∀ Z, Below n2 Wd2 Z → Calls Tryz.prog 13 #[oval o (.slice an nn cn) (.slice aw nw cw), lval lb (.slice lb1 lb.l.args.length lb2) (.slice lb3 lb.r.args.length lb4), lval lc (.slice lc1 lc.l.args.length lc2) (.slice lc3 lc.r.args.length lc4)] Z fun e Z' => e = .returned (.int .i64 y2) ∧ Below Z.heap.size Z Z') ∧ (∀ Z, Below n2 Wd2 Z → Calls Tryz.prog 13 #[oval o (.slice an nn cn) (.slice aw nw cw), lval la (.slice la1 la.l.args.length la2) (.slice la3 la.r.args.length la4), lval lc (.slice lc1 lc.l.args.length lc2) (.slice lc3 lc.r.args.length lc4)] Z fun e Z' => e = .returned (.int .i64 z2) ∧ Below Z.heap.size Z Z') ∧ ∀ Z, Below n2 Wd2 Z → Calls Tryz.prog 13 #[oval o (.slice an nn cn) (.slice aw nw cw), lval lb (.slice lb1 lb.l.args.length lb2) (.slice lb3 lb.r.args.length lb4), lval la (.slice la1 la.l.args.length la2) (.slice la3 la.r.args.length la4)] Z fun e Z' => e = .returned (.int .i64 t2) ∧ Below Z.heap.size Z Z') := ⟨fun Z hZ => by rw [← ex2]; exact hL _ _ oka okb Z hZ, fun Z hZ => by rw [← ey2]; exact hL _ _ okb okc Z hZ, fun Z hZ => by rw [← ez2]; exact hL _ _ oka okc Z hZ, fun Z hZ => by rw [← et2]; exact hL _ _ okb oka Z hZ⟩
      have HM2 := lit_rng o la lb lc
      rw [ex2, ey2, ez2, et2] at HM2
      have H52 : Hid ((x2 = 2 ∧ t2 = 2) ∨ (x2 = 0 ∧ t2 = 0) ∨ (x2 = -1 ∧ t2 = 1) ∨ (x2 = 1 ∧ t2 = -1 ∧ y2 = 1 ∧ z2 = 1) ∨ (x2 = 1 ∧ t2 = -1 ∧ ¬ y2 = 1 ∧ (y2 == 1) = false ∧ (y2 != 1) = true)) := five HM2
      have qo2 : ∀ Z, Below n2 Wd2 Z → Z.cell? ⟨bo, 0, none⟩ = some (.bool o.path) ∧ Z.cell? ⟨bo, 1, none⟩ = some (.slice an nn cn) ∧ Z.cell? ⟨bo, 2, none⟩ = some (.slice aw nw cw) := fun Z hZ => HO.out Z (HD2.out Z hZ).2.1
      have qa := fun (Z : World) (hZ : Below n2 Wd2 Z) => csa.keep (HD2.out Z hZ).2.2 hla
      have qb := fun (Z : World) (hZ : Below n2 Wd2 Z) => csb.keep (HD2.out Z hZ).2.2 hlb
      have qc := fun (Z : World) (hZ : Below n2 Wd2 Z) => csc.keep (HD2.out Z hZ).2.2 hlc
      simp only [CsL, Nat.zero_mul, Nat.add_zero] at qa qb qc
      have pa : (0 : Int) < (a.length : Int) := by omega
      have pb : (0 : Int) < (b.length : Int) := by omega
      have pc : (0 : Int) < (c.length : Int) := by omega
      clear ra0 rb0 rc0 la0 lb0 lc0 HW ra rb rc hpa hpb hpc csa csb csc hla hlb hlc oka okb okc hqa hqb hqc hn2 hd2 hsd2 hL ex2 ey2 ez2 et2 HM2
    all_goals (rcases H5.out with ⟨rfl, rfl⟩ | ⟨rfl, rfl⟩ | ⟨rfl, rfl⟩ | ⟨rfl, rfl, rfl, rfl⟩ | ⟨rfl, rfl, hy1, hy1a, hy1b⟩)
    iterate 5
      · go_wp2
        refine wp_region_held_drew (S := fun Z => Below n2 W6.drew Z) (by kernel_rfl) hB2 (fun hHeld20 => ?_)
        rw [hW2] at hHeld20 ⊢
        refine take_mk 0 (oval o (.slice an nn cn) (.slice aw nw cw)) rfl (by kernel_rfl) (by kernel_rfl) (by kernel_rfl) (fun _ _ _ h => h) (Or.inl ⟨by rfl, fun Z hZ => by obtain ⟨y0, y1, y2⟩ := qo2 Z hZ; go_simp⟩) (by assumption) ?_
        try simp only [Act.put, List.setIfInBounds_toArray, List.set_cons_zero, List.set_cons_succ]
        refine take_mk 1 (.slice (some ⟨bka, ofa, none⟩) a.length ac) rfl (by kernel_rfl) (by kernel_rfl) (by kernel_rfl) (fun _ _ _ h => h) (Or.inl ⟨by rfl, fun Z hZ => by go_simp⟩) (by assumption) ?_
        try simp only [Act.put, List.setIfInBounds_toArray, List.set_cons_zero, List.set_cons_succ]
        refine take_mk 2 (.pointer (some ⟨bka, ofa, none⟩)) rfl (by kernel_rfl) (by kernel_rfl) (by kernel_rfl) (fun _ _ _ h => h) (Or.inl ⟨by rfl, fun Z hZ => by go_simp; try (intro hh; exact absurd (congrArg List.length hh) (by have := HP.out; simp only [List.length_nil]; omega))⟩) (by assumption) ?_
        try simp only [Act.put, List.setIfInBounds_toArray, List.set_cons_zero, List.set_cons_succ]
        refine take_mk 3 (lval la (.slice la1 la.l.args.length la2) (.slice la3 la.r.args.length la4)) rfl (by kernel_rfl) (by kernel_rfl) (by kernel_rfl) (fun _ _ _ h => h) (Or.inl ⟨by rfl, fun Z hZ => by obtain ⟨y0, y1, y2, y3, y4, y5, y6⟩ := qa Z hZ; go_simp⟩) (by assumption) ?_
        try simp only [Act.put, List.setIfInBounds_toArray, List.set_cons_zero, List.set_cons_succ]
        refine take_mk 4 (.slice (some ⟨bkb, ofb, none⟩) b.length bc) rfl (by kernel_rfl) (by kernel_rfl) (by kernel_rfl) (fun _ _ _ h => h) (Or.inl ⟨by rfl, fun Z hZ => by go_simp⟩) (by assumption) ?_
        try simp only [Act.put, List.setIfInBounds_toArray, List.set_cons_zero, List.set_cons_succ]
        refine take_mk 5 (.pointer (some ⟨bkb, ofb, none⟩)) rfl (by kernel_rfl) (by kernel_rfl) (by kernel_rfl) (fun _ _ _ h => h) (Or.inl ⟨by rfl, fun Z hZ => by go_simp; try (intro hh; exact absurd (congrArg List.length hh) (by have := HP.out; simp only [List.length_nil]; omega))⟩) (by assumption) ?_
        try simp only [Act.put, List.setIfInBounds_toArray, List.set_cons_zero, List.set_cons_succ]
        refine take_mk 6 (lval lb (.slice lb1 lb.l.args.length lb2) (.slice lb3 lb.r.args.length lb4)) rfl (by kernel_rfl) (by kernel_rfl) (by kernel_rfl) (fun _ _ _ h => h) (Or.inl ⟨by rfl, fun Z hZ => by obtain ⟨y0, y1, y2, y3, y4, y5, y6⟩ := qb Z hZ; go_simp⟩) (by assumption) ?_
        try simp only [Act.put, List.setIfInBounds_toArray, List.set_cons_zero, List.set_cons_succ]
        refine take_mk 8 (oval o (.slice an nn cn) (.slice aw nw cw)) rfl (by kernel_rfl) (by kernel_rfl) (by kernel_rfl) (fun _ _ _ h => h) (Or.inl ⟨by rfl, fun Z hZ => by obtain ⟨y0, y1, y2⟩ := qo2 Z hZ; go_simp⟩) (by assumption) ?_
        try simp only [Act.put, List.setIfInBounds_toArray, List.set_cons_zero, List.set_cons_succ]
        refine take_mk 9 (.slice (some ⟨bkb, ofb, none⟩) b.length bc) rfl (by kernel_rfl) (by kernel_rfl) (by kernel_rfl) (fun _ _ _ h => h) (Or.inl ⟨by rfl, fun Z hZ => by go_simp⟩) (by assumption) ?_
        try simp only [Act.put, List.setIfInBounds_toArray, List.set_cons_zero, List.set_cons_succ]
        refine take_mk 10 (.pointer (some ⟨bkb, ofb, none⟩)) rfl (by kernel_rfl) (by kernel_rfl) (by kernel_rfl) (fun _ _ _ h => h) (Or.inl ⟨by rfl, fun Z hZ => by go_simp; try (intro hh; exact absurd (congrArg List.length hh) (by have := HP.out; simp only [List.length_nil]; omega))⟩) (by assumption) ?_
        try simp only [Act.put, List.setIfInBounds_toArray, List.set_cons_zero, List.set_cons_succ]
        refine take_mk 11 (lval lb (.slice lb1 lb.l.args.length lb2) (.slice lb3 lb.r.args.length lb4)) rfl (by kernel_rfl) (by kernel_rfl) (by kernel_rfl) (fun _ _ _ h => h) (Or.inl ⟨by rfl, fun Z hZ => by obtain ⟨y0, y1, y2, y3, y4, y5, y6⟩ := qb Z hZ; go_simp⟩) (by assumption) ?_
        try simp only [Act.put, List.setIfInBounds_toArray, List.set_cons_zero, List.set_cons_succ]
        refine take_mk 12 (.slice (some ⟨bkc, ofc, none⟩) c.length cc) rfl (by kernel_rfl) (by kernel_rfl) (by kernel_rfl) (fun _ _ _ h => h) (Or.inl ⟨by rfl, fun Z hZ => by go_simp⟩) (by assumption) ?_
        try simp only [Act.put, List.setIfInBounds_toArray, List.set_cons_zero, List.set_cons_succ]
        refine take_mk 13 (.pointer (some ⟨bkc, ofc, none⟩)) rfl (by kernel_rfl) (by kernel_rfl) (by kernel_rfl) (fun _ _ _ h => h) (Or.inl ⟨by rfl, fun Z hZ => by go_simp; try (intro hh; exact absurd (congrArg List.length hh) (by have := HP.out; simp only [List.length_nil]; omega))⟩) (by assumption) ?_
        try simp only [Act.put, List.setIfInBounds_toArray, List.set_cons_zero, List.set_cons_succ]
        refine take_mk 14 (lval lc (.slice lc1 lc.l.args.length lc2) (.slice lc3 lc.r.args.length lc4)) rfl (by kernel_rfl) (by kernel_rfl) (by kernel_rfl) (fun _ _ _ h => h) (Or.inl ⟨by rfl, fun Z hZ => by obtain ⟨y0, y1, y2, y3, y4, y5, y6⟩ := qc Z hZ; go_simp⟩) (by assumption) ?_
        try simp only [Act.put, List.setIfInBounds_toArray, List.set_cons_zero, List.set_cons_succ]
        refine take_mk 16 (oval o (.slice an nn cn) (.slice aw nw cw)) rfl (by kernel_rfl) (by kernel_rfl) (by kernel_rfl) (fun _ _ _ h => h) (Or.inl ⟨by rfl, fun Z hZ => by obtain ⟨y0, y1, y2⟩ := qo2 Z hZ; go_simp⟩) (by assumption) ?_
        try simp only [Act.put, List.setIfInBounds_toArray, List.set_cons_zero, List.set_cons_succ]
        refine take_mk 17 (.slice (some ⟨bka, ofa, none⟩) a.length ac) rfl (by kernel_rfl) (by kernel_rfl) (by kernel_rfl) (fun _ _ _ h => h) (Or.inl ⟨by rfl, fun Z hZ => by go_simp⟩) (by assumption) ?_
        try simp only [Act.put, List.setIfInBounds_toArray, List.set_cons_zero, List.set_cons_succ]
        refine take_mk 18 (.pointer (some ⟨bka, ofa, none⟩)) rfl (by kernel_rfl) (by kernel_rfl) (by kernel_rfl) (fun _ _ _ h => h) (Or.inl ⟨by rfl, fun Z hZ => by go_simp; try (intro hh; exact absurd (congrArg List.length hh) (by have := HP.out; simp only [List.length_nil]; omega))⟩) (by assumption) ?_
        try simp only [Act.put, List.setIfInBounds_toArray, List.set_cons_zero, List.set_cons_succ]
        refine take_mk 19 (lval la (.slice la1 la.l.args.length la2) (.slice la3 la.r.args.length la4)) rfl (by kernel_rfl) (by kernel_rfl) (by kernel_rfl) (fun _ _ _ h => h) (Or.inl ⟨by rfl, fun Z hZ => by obtain ⟨y0, y1, y2, y3, y4, y5, y6⟩ := qa Z hZ; go_simp⟩) (by assumption) ?_
        try simp only [Act.put, List.setIfInBounds_toArray, List.set_cons_zero, List.set_cons_succ]
        refine take_mk 20 (.slice (some ⟨bkc, ofc, none⟩) c.length cc) rfl (by kernel_rfl) (by kernel_rfl) (by kernel_rfl) (fun _ _ _ h => h) (Or.inl ⟨by rfl, fun Z hZ => by go_simp⟩) (by assumption) ?_
        try simp only [Act.put, List.setIfInBounds_toArray, List.set_cons_zero, List.set_cons_succ]
        refine take_mk 21 (.pointer (some ⟨bkc, ofc, none⟩)) rfl (by kernel_rfl) (by kernel_rfl) (by kernel_rfl) (fun _ _ _ h => h) (Or.inl ⟨by rfl, fun Z hZ => by go_simp; try (intro hh; exact absurd (congrArg List.length hh) (by have := HP.out; simp only [List.length_nil]; omega))⟩) (by assumption) ?_
        try simp only [Act.put, List.setIfInBounds_toArray, List.set_cons_zero, List.set_cons_succ]
        refine take_mk 22 (lval lc (.slice lc1 lc.l.args.length lc2) (.slice lc3 lc.r.args.length lc4)) rfl (by kernel_rfl) (by kernel_rfl) (by kernel_rfl) (fun _ _ _ h => h) (Or.inl ⟨by rfl, fun Z hZ => by obtain ⟨y0, y1, y2, y3, y4, y5, y6⟩ := qc Z hZ; go_simp⟩) (by assumption) ?_
        try simp only [Act.put, List.setIfInBounds_toArray, List.set_cons_zero, List.set_cons_succ]
        refine take_mk 24 (oval o (.slice an nn cn) (.slice aw nw cw)) rfl (by kernel_rfl) (by kernel_rfl) (by kernel_rfl) (fun _ _ _ h => h) (Or.inl ⟨by rfl, fun Z hZ => by obtain ⟨y0, y1, y2⟩ := qo2 Z hZ; go_simp⟩) (by assumption) ?_
        try simp only [Act.put, List.setIfInBounds_toArray, List.set_cons_zero, List.set_cons_succ]
        refine take_mk 25 (.slice (some ⟨bkb, ofb, none⟩) b.length bc) rfl (by kernel_rfl) (by kernel_rfl) (by kernel_rfl) (fun _ _ _ h => h) (Or.inl ⟨by rfl, fun Z hZ => by go_simp⟩) (by assumption) ?_
        try simp only [Act.put, List.setIfInBounds_toArray, List.set_cons_zero, List.set_cons_succ]
        refine take_mk 26 (.pointer (some ⟨bkb, ofb, none⟩)) rfl (by kernel_rfl) (by kernel_rfl) (by kernel_rfl) (fun _ _ _ h => h) (Or.inl ⟨by rfl, fun Z hZ => by go_simp; try (intro hh; exact absurd (congrArg List.length hh) (by have := HP.out; simp only [List.length_nil]; omega))⟩) (by assumption) ?_
        try simp only [Act.put, List.setIfInBounds_toArray, List.set_cons_zero, List.set_cons_succ]
        refine take_mk 27 (lval lb (.slice lb1 lb.l.args.length lb2) (.slice lb3 lb.r.args.length lb4)) rfl (by kernel_rfl) (by kernel_rfl) (by kernel_rfl) (fun _ _ _ h => h) (Or.inl ⟨by rfl, fun Z hZ => by obtain ⟨y0, y1, y2, y3, y4, y5, y6⟩ := qb Z hZ; go_simp⟩) (by assumption) ?_
        try simp only [Act.put, List.setIfInBounds_toArray, List.set_cons_zero, List.set_cons_succ]
        refine take_mk 28 (.slice (some ⟨bka, ofa, none⟩) a.length ac) rfl (by kernel_rfl) (by kernel_rfl) (by kernel_rfl) (fun _ _ _ h => h) (Or.inl ⟨by rfl, fun Z hZ => by go_simp⟩) (by assumption) ?_
        try simp only [Act.put, List.setIfInBounds_toArray, List.set_cons_zero, List.set_cons_succ]
        refine take_mk 29 (.pointer (some ⟨bka, ofa, none⟩)) rfl (by kernel_rfl) (by kernel_rfl) (by kernel_rfl) (fun _ _ _ h => h) (Or.inl ⟨by rfl, fun Z hZ => by go_simp; try (intro hh; exact absurd (congrArg List.length hh) (by have := HP.out; simp only [List.length_nil]; omega))⟩) (by assumption) ?_
        try simp only [Act.put, List.setIfInBounds_toArray, List.set_cons_zero, List.set_cons_succ]
        refine take_mk 30 (lval la (.slice la1 la.l.args.length la2) (.slice la3 la.r.args.length la4)) rfl (by kernel_rfl) (by kernel_rfl) (by kernel_rfl) (fun _ _ _ h => h) (Or.inl ⟨by rfl, fun Z hZ => by obtain ⟨y0, y1, y2, y3, y4, y5, y6⟩ := qa Z hZ; go_simp⟩) (by assumption) ?_
        try simp only [Act.put, List.setIfInBounds_toArray, List.set_cons_zero, List.set_cons_succ]
        refine wpAnyH_ready (rs := [7]) (by kernel_rfl) (by simp) (AllReadyH.cons (o := ⟨_, _, _, _, _, _⟩) rfl (fun K hK => ?_) AllReadyH.nil)
        rw [if_pos (by rfl)]
        go_simp
        refine (HX2.out.1 _ hHeld20).mono ?_
        rintro e X20 ⟨rfl, d⟩
        have hHeld21 : Below n2 Wd2 X20 := hHeld20.trans (d.mono (by have := hHeld20.size; have := HN2.out; omega))
        refine hK.out _ _ hHeld21 (fun _ => ?_)
        clear hK K d
        try simp only [Act.put, List.setIfInBounds_toArray, List.set_cons_zero, List.set_cons_succ]
        refine wpAnyH_ready (rs := [15]) (by kernel_rfl) (by simp) (AllReadyH.cons (o := ⟨_, _, _, _, _, _⟩) rfl (fun K hK => ?_) AllReadyH.nil)
        rw [if_pos (by rfl)]
        go_simp
        refine (HX2.out.2.1 _ hHeld21).mono ?_
        rintro e X21 ⟨rfl, d⟩
        have hHeld22 : Below n2 Wd2 X21 := hHeld21.trans (d.mono (by have := hHeld21.size; have := HN2.out; omega))
        refine hK.out _ _ hHeld22 (fun _ => ?_)
        clear hK K d
        try simp only [Act.put, List.setIfInBounds_toArray, List.set_cons_zero, List.set_cons_succ]
        refine wpAnyH_ready (rs := [23]) (by kernel_rfl) (by simp) (AllReadyH.cons (o := ⟨_, _, _, _, _, _⟩) rfl (fun K hK => ?_) AllReadyH.nil)
        rw [if_pos (by rfl)]
        go_simp
        refine (HX2.out.2.2.1 _ hHeld22).mono ?_
        rintro e X22 ⟨rfl, d⟩
        have hHeld23 : Below n2 Wd2 X22 := hHeld22.trans (d.mono (by have := hHeld22.size; have := HN2.out; omega))
        refine hK.out _ _ hHeld23 (fun _ => ?_)
        clear hK K d
        try simp only [Act.put, List.setIfInBounds_toArray, List.set_cons_zero, List.set_cons_succ]
        refine wpAnyH_ready (rs := [31]) (by kernel_rfl) (by simp) (AllReadyH.cons (o := ⟨_, _, _, _, _, _⟩) rfl (fun K hK => ?_) AllReadyH.nil)
        rw [if_pos (by rfl)]
        go_simp
        refine (HX2.out.2.2.2 _ hHeld23).mono ?_
        rintro e X23 ⟨rfl, d⟩
        have hHeld24 : Below n2 Wd2 X23 := hHeld23.trans (d.mono (by have := hHeld23.size; have := HN2.out; omega))
        refine hK.out _ _ hHeld24 (fun _ => ?_)
        clear hK K d
        try simp only [Act.put, List.setIfInBounds_toArray, List.set_cons_zero, List.set_cons_succ]
        refine take_mk 32 (.int .i64 x2) rfl (by kernel_rfl) (by kernel_rfl) (by kernel_rfl) (fun _ _ _ h => h) (Or.inl ⟨by rfl, fun Z hZ => by go_simp⟩) (by assumption) ?_
        try simp only [Act.put, List.setIfInBounds_toArray, List.set_cons_zero, List.set_cons_succ]
        refine take_mk 33 (.int .i64 y2) rfl (by kernel_rfl) (by kernel_rfl) (by kernel_rfl) (fun _ _ _ h => h) (Or.inl ⟨by rfl, fun Z hZ => by go_simp⟩) (by assumption) ?_
        try simp only [Act.put, List.setIfInBounds_toArray, List.set_cons_zero, List.set_cons_succ]
        refine take_mk 34 (.int .i64 z2) rfl (by kernel_rfl) (by kernel_rfl) (by kernel_rfl) (fun _ _ _ h => h) (Or.inl ⟨by rfl, fun Z hZ => by go_simp⟩) (by assumption) ?_
        try simp only [Act.put, List.setIfInBounds_toArray, List.set_cons_zero, List.set_cons_succ]
        refine take_mk 35 (.int .i64 t2) rfl (by kernel_rfl) (by kernel_rfl) (by kernel_rfl) (fun _ _ _ h => h) (Or.inl ⟨by rfl, fun Z hZ => by go_simp⟩) (by assumption) ?_
        try simp only [Act.put, List.setIfInBounds_toArray, List.set_cons_zero, List.set_cons_succ]
        refine wpAnyH_done (by kernel_rfl) ?_ _
        try simp only [Act.put]
        have HE2 : Hid (Below n2 Wd2 X23) := hHeld24
        clear hHeld20 hHeld21 hHeld22 hHeld23 hHeld24
        have HF : Hid (Below w.heap.size w X23) := (HD2.out _ HE2.out).1
        clear qo2 qa qb qc HE2 hB2 HX2
        generalize X23 = W8 at *
        rcases H52.out with ⟨rfl, rfl⟩ | ⟨rfl, rfl⟩ | ⟨rfl, rfl⟩ | ⟨rfl, rfl, rfl, rfl⟩ | ⟨rfl, rfl, hy2, hy2a, hy2b⟩
        all_goals (
          go_wp2_with fail
          refine (HAl.out W8 HF.out).mono ?_
          rintro e W9 ⟨rfl, b9⟩
          go_wp2
          go_ret
          exact ⟨rfl, b9⟩)
    all_goals (
        go_wp2_with fail
        refine (HAl.out W6 HW6.out.1).mono ?_
        rintro e W7 ⟨rfl, b7⟩
        go_wp2
        go_ret
        exact ⟨rfl, b7⟩)

end Go.Proofs.YtglphfhlpobgcaaGreat
