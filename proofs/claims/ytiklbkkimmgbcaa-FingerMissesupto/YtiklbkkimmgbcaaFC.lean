/-
  Fingerprints: finger.fingerprintOf.
-/
import Derived.Test.YtiklbkkimmgbcaaFB
namespace Go.Proofs.Ytiklbkkimmgbcaa
open Go.RowKit Go.Maps

theorem rnil (W : World) : RowAt (fun k : Nat => .int .i64 (k : Int)) W (.slice none 0 0) [] := ⟨none, 0, rfl, Nat.le_refl _, by omega, fun h => absurd h (by simp)⟩
theorem nums_built (W : World) (bs : List Nat) (hl : bs.length ≤ 1000) : RowAt (fun k : Nat => .int .i64 (k : Int)) (W.alloc (.cells (bs.map (fun k : Nat => Value.int .i64 (k : Int))).toArray 3)) (.slice (some ⟨W.heap.size, 0, none⟩) bs.length bs.length) bs := by
  refine ⟨_, _, rfl, Nat.le_refl _, by omega, fun _ => ⟨W.heap.size, 0, by simp, rfl, fun i hi => ?_⟩⟩
  rw [Nat.zero_add, cell_of_row _ _ _ _ 3 (0, 0) (MapKept.heap_alloc W _).1]
  simp [hi]
/-- The operations, and what is asked behind, by names. -/
theorem by_names {P : Program} {md : Region.Mode} {ops : Array Oper} {Q : Exit → Act → World → Prop} {S : World → Prop} {fuel : Nat} {listed : Array Bool} {a : Act} {w : World} (h : ∀ ops', ops' = ops → ∀ Q', Q' = Q → wpAnyH P md ops' Q' S fuel listed a w) : wpAnyH P md ops Q S fuel listed a w := h _ rfl _ rfl
theorem at_state {P : Program} {md : Region.Mode} {ops : Array Oper} {Q : Exit → Act → World → Prop} {S : World → Prop} {fuel : Nat} {listed listed' : Array Bool} {a : Act} {w : World} (hl : listed = listed') (h : wpAnyH P md ops Q S fuel listed' a w) : wpAnyH P md ops Q S fuel listed a w := by rw [hl]; exact h
/-- The cells of four features. -/
abbrev fcells (a b c d : Ft) : List Value := [.int .i64 a.kind, .int .i64 a.ar, .string a.fn, .int .i64 b.kind, .int .i64 b.ar, .string b.fn, .int .i64 c.kind, .int .i64 c.ar, .string c.fn, .int .i64 d.kind, .int .i64 d.ar, .string d.fn]
theorem ones12 (a b c d : Ft) : ∀ u ∈ fcells a b c d, u.oneCell' = true := by
  intro u hu
  simp only [fcells, List.mem_cons, List.not_mem_nil, or_false] at hu
  rcases hu with rfl | rfl | rfl | rfl | rfl | rfl | rfl | rfl | rfl | rfl | rfl | rfl <;> rfl
/-- The four features of a term. -/
abbrev fpr (t : T) : List Value := fcells (feat t []) (feat t [0]) (feat t [1]) (feat t [0, 0])
theorem Try.info66z : (Try.prog.info? 66).map (·.size) = some 12 := by kernel_rfl

theorem cell_store {W : World} {b : Nat} {vs : List Value} {ty : TypeId} (h : W.heap[b]? = some (.cells vs.toArray ty (0, 0))) {i : Nat} {v : Value} (hv : vs[i]? = some v) : W.cell? ⟨b, i, none⟩ = some v := by
  simp [World.cell?, h, hv]

set_option maxRecDepth 100000 in
set_option maxHeartbeats 16000000 in
theorem fingerprintOf_any (t : T) (s : Value) (w : World) (ha : ArgsAt w s t.args) :
    Calls Try.prog 32 #[tval t s] w fun e w' => e = .returned (.agg (fpr t).toArray) ∧ Below w.heap.size w w' := by
  obtain ⟨W1, h1⟩ : ∃ X, w.alloc (tbox t s) = X := ⟨_, rfl⟩
  obtain ⟨W2, h2⟩ : ∃ X, W1.alloc (.cells #[.int .i64 0, .int .i64 0, .string ⟨#[]⟩, .int .i64 0, .int .i64 0, .string ⟨#[]⟩, .int .i64 0, .int .i64 0, .string ⟨#[]⟩, .int .i64 0, .int .i64 0, .string ⟨#[]⟩] 66) = X := ⟨_, rfl⟩
  have b1 : Below w.heap.size w W1 := by rw [← h1]; exact below_box _ _
  have b2 : Below W1.heap.size W1 W2 := by rw [← h2]; exact below_box _ _
  have s1 : W1.heap.size = w.heap.size + 1 := by rw [← h1]; simp
  have s2 : W2.heap.size = w.heap.size + 2 := by rw [← h2]; simp [s1]
  have b02 : Below w.heap.size w W2 := b1.trans (b2.mono b1.size)
  obtain ⟨x0, x1, x2⟩ := tbox_cells w t s
  rw [h1] at x0 x1 x2
  have hz := (MapKept.heap_alloc W1 (.cells #[.int .i64 0, .int .i64 0, .string ⟨#[]⟩, .int .i64 0, .int .i64 0, .string ⟨#[]⟩, .int .i64 0, .int .i64 0, .string ⟨#[]⟩, .int .i64 0, .int .i64 0, .string ⟨#[]⟩] 66)).1
  rw [h2, s1] at hz
  obtain ⟨Wd, hWd⟩ : ∃ X, W2.drew = X := ⟨_, rfl⟩
  have hd : Below W2.heap.size W2 Wd := by rw [← hWd]; exact (Below.refl _ W2).drew
  have hsd : Wd.heap.size = w.heap.size + 2 := by rw [← hWd]; exact s2
  obtain ⟨n0, hn0⟩ : ∃ n, Wd.heap.size = n := ⟨_, rfl⟩
  have b0d : Below w.heap.size w Wd := b02.trans (hd.mono b02.size)
  have b1d : Below W1.heap.size W1 Wd := b2.trans (hd.mono b2.size)
  have HN0 : Hid (Wd.heap.size = n0) := hn0
  have HBd : Hid (Below w.heap.size w Wd ∧ n0 = w.heap.size + 2) := ⟨b0d, by omega⟩
  have HA : Hid (∀ Z, Below n0 Wd Z → ArgsAt Z s t.args) := fun Z hZ => ArgsAt.keep (b0d.trans (hZ.mono (by omega))) (Nat.le_refl _) ha
  have HZ : Hid (∀ Z, Below n0 Wd Z → Z.heap[w.heap.size + 1]? = some (.cells #[.int .i64 0, .int .i64 0, .string ⟨#[]⟩, .int .i64 0, .int .i64 0, .string ⟨#[]⟩, .int .i64 0, .int .i64 0, .string ⟨#[]⟩, .int .i64 0, .int .i64 0, .string ⟨#[]⟩] 66 (0, 0))) := fun Z hZ => by
    rw [hZ.block _ (by omega), hd.block _ (by omega)]
    exact hz
  have HSS : Hid (∀ Z, Below n0 Wd Z → Only [w.heap.size + 1] Wd Z) := fun Z hZ => Only.of_below (by rw [hn0]; exact hZ)
  have HX : Hid (∀ Z, Only [w.heap.size + 1] Wd Z → Z.cell? ⟨w.heap.size, 0, none⟩ = some (.int .i64 t.v) ∧ Z.cell? ⟨w.heap.size, 1, none⟩ = some (.string t.fn) ∧ Z.cell? ⟨w.heap.size, 2, none⟩ = some s) := fun Z hZ => by
    have e : Below (w.heap.size + 1) Wd Z := hZ.below (by omega) (by simp)
    have e1 : Below (w.heap.size + 1) W1 Z := (b1d.mono (by omega)).trans e
    exact ⟨kc e1 (by omega) x0, kc e1 (by omega) x1, kc e1 (by omega) x2⟩
  obtain ⟨sa, sc, rfl, _, _⟩ := ha.slice
  clear hz b1 b2 b02 x0 x1 x2 hd b0d b1d ha hn0 hsd s2
  go_enter Try.func32, Try.ntmps32
  try rw [h1]
  try rw [s1]
  try rw [h2]
  go_wp2
  try rw [h1]
  try rw [s1]
  try rw [h2]
  refine wp_region_held_drew (S := fun Z => Only [w.heap.size + 1] Wd Z) (by kernel_rfl) (by rw [hWd]; exact Only.refl _ _) (fun hHeld => ?_)
  rw [hWd] at hHeld ⊢
  refine take_mk 0 (tval t (.slice sa t.args.length sc)) rfl (by kernel_rfl) (by kernel_rfl) (by kernel_rfl) (fun _ _ _ h => h) (Or.inl ⟨by rfl, fun Z hZ => by obtain ⟨y0, y1, y2⟩ := HX.out Z hZ; go_simp⟩) (by assumption) ?_
  try simp only [Act.put, List.setIfInBounds_toArray, List.set_cons_zero, List.set_cons_succ]
  refine take_mk 2 (tval t (.slice sa t.args.length sc)) rfl (by kernel_rfl) (by kernel_rfl) (by kernel_rfl) (fun _ _ _ h => h) (Or.inl ⟨by rfl, fun Z hZ => by obtain ⟨y0, y1, y2⟩ := HX.out Z hZ; go_simp⟩) (by assumption) ?_
  try simp only [Act.put, List.setIfInBounds_toArray, List.set_cons_zero, List.set_cons_succ]
  refine take_mk 5 (tval t (.slice sa t.args.length sc)) rfl (by kernel_rfl) (by kernel_rfl) (by kernel_rfl) (fun _ _ _ h => h) (Or.inl ⟨by rfl, fun Z hZ => by obtain ⟨y0, y1, y2⟩ := HX.out Z hZ; go_simp⟩) (by assumption) ?_
  try simp only [Act.put, List.setIfInBounds_toArray, List.set_cons_zero, List.set_cons_succ]
  refine take_mk 8 (tval t (.slice sa t.args.length sc)) rfl (by kernel_rfl) (by kernel_rfl) (by kernel_rfl) (fun _ _ _ h => h) (Or.inl ⟨by rfl, fun Z hZ => by obtain ⟨y0, y1, y2⟩ := HX.out Z hZ; go_simp⟩) (by assumption) ?_
  try simp only [Act.put, List.setIfInBounds_toArray, List.set_cons_zero, List.set_cons_succ]
  refine by_names fun ops hops Q hQ => ?_
  have st1111111 : ∀ (X : World) (n3 n6 n9 : Nat), Below n0 Wd X → wpAnyH Try.prog .any ops Q (fun Z => Only [w.heap.size + 1] Wd Z) 2 #[true, true, true, true, true, true, true, true, true, true, true, false, false] ⟨#[tval t (.slice sa t.args.length sc), .pointer (some ⟨w.heap.size, 0, none⟩), .pointer (some ⟨w.heap.size + 1, 0, none⟩), tval t (.slice sa t.args.length sc), fval (feat t []), tval t (.slice sa t.args.length sc), .slice (some ⟨n3, 0, none⟩) 1 1, fval (feat t [0]), tval t (.slice sa t.args.length sc), .slice (some ⟨n6, 0, none⟩) 1 1, fval (feat t [1]), tval t (.slice sa t.args.length sc), .slice (some ⟨n9, 0, none⟩) 2 2, fval (feat t [0, 0]), undef], []⟩ X := by
    intro X n3 n6 n9 bX
    subst hops hQ
    refine take_mk 11 (.agg (fpr t).toArray) rfl (by kernel_rfl) (by kernel_rfl) (by kernel_rfl) (fun _ _ _ h => h) (Or.inl ⟨by rfl, fun Z hZ => by go_simp⟩) (HSS.out _ bX) ?_
    try simp only [Act.put, List.setIfInBounds_toArray, List.set_cons_zero, List.set_cons_succ]
    obtain ⟨X9, hrun, hx9, hon⟩ := agg_store 66 X (w.heap.size + 1) _ (fpr t) (HZ.out X bX) rfl Try.info66z (ones12 _ _ _ _)
    refine wpAnyH_ready (rs := [12]) (by kernel_rfl) (by simp) (AllReadyH.cons (o := ⟨_, _, _, _, _, _⟩) rfl (fun K hK => ?_) AllReadyH.nil)
    rw [if_pos (by rfl)]
    refine wp_store_run 66 _ _ rfl (.pointer (some ⟨w.heap.size + 1, 0, none⟩)) (.agg (fpr t).toArray) rfl rfl hrun ?_
    refine hK.out _ _ ((HSS.out _ bX).trans hon (fun r hr => .inl hr)) (fun _ => ?_)
    clear hK K
    refine wpAnyH_done (by kernel_rfl) ?_ _
    try simp only [Act.put]
    have HB9 : Hid (Below w.heap.size w X9) := HBd.out.1.trans ((bX.mono (by have := HBd.out.2; omega)).trans (hon.below (by have := bX.size; have := HN0.out; have := HBd.out.2; omega) (by simp)))
    have z := fun i (v : Value) (h : (fpr t)[i]? = some v) => cell_store hx9 h
    have z0 := z 0 _ rfl
    have z1 := z 1 _ rfl
    have z2 := z 2 _ rfl
    have z3 := z 3 _ rfl
    have z4 := z 4 _ rfl
    have z5 := z 5 _ rfl
    have z6 := z 6 _ rfl
    have z7 := z 7 _ rfl
    have z8 := z 8 _ rfl
    have z9 := z 9 _ rfl
    have z10 := z 10 _ rfl
    have z11 := z 11 _ rfl
    clear z hrun hx9 hon
    go_wp2
    refine bodyPost_ret (v := .agg (fpr t).toArray) (by simp [results, Try.results32, go_sem, *]) rfl ⟨rfl, HB9.out⟩
  have st1111110 : ∀ (X : World) (n3 n6 n9 : Nat), Below n0 Wd X → RowAt (fun k : Nat => .int .i64 (k : Int)) X (.slice (some ⟨n9, 0, none⟩) 2 2) [0, 0] → wpAnyH Try.prog .any ops Q (fun Z => Only [w.heap.size + 1] Wd Z) 3 #[true, true, true, true, true, true, true, true, true, true, false, false, false] ⟨#[tval t (.slice sa t.args.length sc), .pointer (some ⟨w.heap.size, 0, none⟩), .pointer (some ⟨w.heap.size + 1, 0, none⟩), tval t (.slice sa t.args.length sc), fval (feat t []), tval t (.slice sa t.args.length sc), .slice (some ⟨n3, 0, none⟩) 1 1, fval (feat t [0]), tval t (.slice sa t.args.length sc), .slice (some ⟨n6, 0, none⟩) 1 1, fval (feat t [1]), tval t (.slice sa t.args.length sc), .slice (some ⟨n9, 0, none⟩) 2 2, undef, undef], []⟩ X := by
    intro X n3 n6 n9 bX r9
    subst hops hQ
    refine wpAnyH_ready (rs := [10]) (by kernel_rfl) (by simp) (AllReadyH.cons (o := ⟨_, _, _, _, _, _⟩) rfl (fun K hK => ?_) AllReadyH.nil)
    · rw [if_pos (by rfl)]
      go_simp
      refine (featureAt_any t _ [0, 0] _ X (HA.out X bX) r9).mono ?_
      rintro e Y ⟨rfl, qY⟩
      have bY : Below n0 Wd Y := bX.trans (qY.mono (by have := bX.size; have := HN0.out; omega))
      refine hK.out _ _ (HSS.out _ bY) (fun _ => ?_)
      clear hK K
      try simp only [List.setIfInBounds_toArray, List.set_cons_zero, List.set_cons_succ]
      exact at_state (by kernel_rfl) (st1111111 Y n3 n6 n9 bY)
  have st1111100 : ∀ (X : World) (n3 n6 : Nat), Below n0 Wd X → wpAnyH Try.prog .any ops Q (fun Z => Only [w.heap.size + 1] Wd Z) 4 #[true, true, true, true, true, true, true, true, true, false, false, false, false] ⟨#[tval t (.slice sa t.args.length sc), .pointer (some ⟨w.heap.size, 0, none⟩), .pointer (some ⟨w.heap.size + 1, 0, none⟩), tval t (.slice sa t.args.length sc), fval (feat t []), tval t (.slice sa t.args.length sc), .slice (some ⟨n3, 0, none⟩) 1 1, fval (feat t [0]), tval t (.slice sa t.args.length sc), .slice (some ⟨n6, 0, none⟩) 1 1, fval (feat t [1]), tval t (.slice sa t.args.length sc), undef, undef, undef], []⟩ X := by
    intro X n3 n6 bX
    subst hops hQ
    refine wpAnyH_ready (rs := [9]) (by kernel_rfl) (by simp) (AllReadyH.cons (o := ⟨_, _, _, _, _, _⟩) rfl (fun K hK => ?_) AllReadyH.nil)
    · rw [if_pos (by rfl)]
      go_simp
      obtain ⟨Y, hY⟩ : ∃ Z, X.alloc (.cells #[.int .i64 0, .int .i64 0] 3) = Z := ⟨_, rfl⟩
      have qY : Below X.heap.size X Y := by rw [← hY]; exact below_box _ _
      have r9 : RowAt (fun k : Nat => .int .i64 (k : Int)) Y (.slice (some ⟨X.heap.size, 0, none⟩) 2 2) [0, 0] := by rw [← hY]; exact nums_built X [0, 0] (by simp)
      rw [hY]
      have bY : Below n0 Wd Y := bX.trans (qY.mono (by have := bX.size; have := HN0.out; omega))
      refine hK.out _ _ (HSS.out _ bY) (fun _ => ?_)
      clear hK K
      try simp only [List.setIfInBounds_toArray, List.set_cons_zero, List.set_cons_succ]
      exact at_state (by kernel_rfl) (st1111110 Y n3 n6 X.heap.size bY r9)
  have st1111010 : ∀ (X : World) (n3 n6 n9 : Nat), Below n0 Wd X → RowAt (fun k : Nat => .int .i64 (k : Int)) X (.slice (some ⟨n6, 0, none⟩) 1 1) [1] → RowAt (fun k : Nat => .int .i64 (k : Int)) X (.slice (some ⟨n9, 0, none⟩) 2 2) [0, 0] → wpAnyH Try.prog .any ops Q (fun Z => Only [w.heap.size + 1] Wd Z) 4 #[true, true, true, true, true, true, true, false, true, true, false, false, false] ⟨#[tval t (.slice sa t.args.length sc), .pointer (some ⟨w.heap.size, 0, none⟩), .pointer (some ⟨w.heap.size + 1, 0, none⟩), tval t (.slice sa t.args.length sc), fval (feat t []), tval t (.slice sa t.args.length sc), .slice (some ⟨n3, 0, none⟩) 1 1, fval (feat t [0]), tval t (.slice sa t.args.length sc), .slice (some ⟨n6, 0, none⟩) 1 1, undef, tval t (.slice sa t.args.length sc), .slice (some ⟨n9, 0, none⟩) 2 2, undef, undef], []⟩ X := by
    intro X n3 n6 n9 bX r6 r9
    subst hops hQ
    refine wpAnyH_ready (rs := [7]) (by kernel_rfl) (by simp) (AllReadyH.cons (o := ⟨_, _, _, _, _, _⟩) rfl (fun K hK => ?_) AllReadyH.nil)
    · rw [if_pos (by rfl)]
      go_simp
      refine (featureAt_any t _ [1] _ X (HA.out X bX) r6).mono ?_
      rintro e Y ⟨rfl, qY⟩
      have bY : Below n0 Wd Y := bX.trans (qY.mono (by have := bX.size; have := HN0.out; omega))
      refine hK.out _ _ (HSS.out _ bY) (fun _ => ?_)
      clear hK K
      try simp only [List.setIfInBounds_toArray, List.set_cons_zero, List.set_cons_succ]
      exact at_state (by kernel_rfl) (st1111110 Y n3 n6 n9 bY (r9.keep qY (Nat.le_refl _)))
  have st1111000 : ∀ (X : World) (n3 n6 : Nat), Below n0 Wd X → RowAt (fun k : Nat => .int .i64 (k : Int)) X (.slice (some ⟨n6, 0, none⟩) 1 1) [1] → wpAnyH Try.prog .any ops Q (fun Z => Only [w.heap.size + 1] Wd Z) 5 #[true, true, true, true, true, true, true, false, true, false, false, false, false] ⟨#[tval t (.slice sa t.args.length sc), .pointer (some ⟨w.heap.size, 0, none⟩), .pointer (some ⟨w.heap.size + 1, 0, none⟩), tval t (.slice sa t.args.length sc), fval (feat t []), tval t (.slice sa t.args.length sc), .slice (some ⟨n3, 0, none⟩) 1 1, fval (feat t [0]), tval t (.slice sa t.args.length sc), .slice (some ⟨n6, 0, none⟩) 1 1, undef, tval t (.slice sa t.args.length sc), undef, undef, undef], []⟩ X := by
    intro X n3 n6 bX r6
    subst hops hQ
    refine wpAnyH_ready (rs := [7, 9]) (by kernel_rfl) (by simp) (AllReadyH.cons (o := ⟨_, _, _, _, _, _⟩) rfl (fun K hK => ?_) (AllReadyH.cons (o := ⟨_, _, _, _, _, _⟩) rfl (fun K hK => ?_) AllReadyH.nil))
    · rw [if_pos (by rfl)]
      go_simp
      refine (featureAt_any t _ [1] _ X (HA.out X bX) r6).mono ?_
      rintro e Y ⟨rfl, qY⟩
      have bY : Below n0 Wd Y := bX.trans (qY.mono (by have := bX.size; have := HN0.out; omega))
      refine hK.out _ _ (HSS.out _ bY) (fun _ => ?_)
      clear hK K
      try simp only [List.setIfInBounds_toArray, List.set_cons_zero, List.set_cons_succ]
      exact at_state (by kernel_rfl) (st1111100 Y n3 n6 bY)
    · rw [if_pos (by rfl)]
      go_simp
      obtain ⟨Y, hY⟩ : ∃ Z, X.alloc (.cells #[.int .i64 0, .int .i64 0] 3) = Z := ⟨_, rfl⟩
      have qY : Below X.heap.size X Y := by rw [← hY]; exact below_box _ _
      have r9 : RowAt (fun k : Nat => .int .i64 (k : Int)) Y (.slice (some ⟨X.heap.size, 0, none⟩) 2 2) [0, 0] := by rw [← hY]; exact nums_built X [0, 0] (by simp)
      rw [hY]
      have bY : Below n0 Wd Y := bX.trans (qY.mono (by have := bX.size; have := HN0.out; omega))
      refine hK.out _ _ (HSS.out _ bY) (fun _ => ?_)
      clear hK K
      try simp only [List.setIfInBounds_toArray, List.set_cons_zero, List.set_cons_succ]
      exact at_state (by kernel_rfl) (st1111010 Y n3 n6 X.heap.size bY (r6.keep qY (Nat.le_refl _)) r9)
  have st1110010 : ∀ (X : World) (n3 n9 : Nat), Below n0 Wd X → RowAt (fun k : Nat => .int .i64 (k : Int)) X (.slice (some ⟨n9, 0, none⟩) 2 2) [0, 0] → wpAnyH Try.prog .any ops Q (fun Z => Only [w.heap.size + 1] Wd Z) 5 #[true, true, true, true, true, true, false, false, true, true, false, false, false] ⟨#[tval t (.slice sa t.args.length sc), .pointer (some ⟨w.heap.size, 0, none⟩), .pointer (some ⟨w.heap.size + 1, 0, none⟩), tval t (.slice sa t.args.length sc), fval (feat t []), tval t (.slice sa t.args.length sc), .slice (some ⟨n3, 0, none⟩) 1 1, fval (feat t [0]), tval t (.slice sa t.args.length sc), undef, undef, tval t (.slice sa t.args.length sc), .slice (some ⟨n9, 0, none⟩) 2 2, undef, undef], []⟩ X := by
    intro X n3 n9 bX r9
    subst hops hQ
    refine wpAnyH_ready (rs := [6]) (by kernel_rfl) (by simp) (AllReadyH.cons (o := ⟨_, _, _, _, _, _⟩) rfl (fun K hK => ?_) AllReadyH.nil)
    · rw [if_pos (by rfl)]
      go_simp
      obtain ⟨Y, hY⟩ : ∃ Z, X.alloc (.cells #[.int .i64 1] 3) = Z := ⟨_, rfl⟩
      have qY : Below X.heap.size X Y := by rw [← hY]; exact below_box _ _
      have r6 : RowAt (fun k : Nat => .int .i64 (k : Int)) Y (.slice (some ⟨X.heap.size, 0, none⟩) 1 1) [1] := by rw [← hY]; exact nums_built X [1] (by simp)
      rw [hY]
      have bY : Below n0 Wd Y := bX.trans (qY.mono (by have := bX.size; have := HN0.out; omega))
      refine hK.out _ _ (HSS.out _ bY) (fun _ => ?_)
      clear hK K
      try simp only [List.setIfInBounds_toArray, List.set_cons_zero, List.set_cons_succ]
      exact at_state (by kernel_rfl) (st1111010 Y n3 X.heap.size n9 bY r6 (r9.keep qY (Nat.le_refl _)))
  have st1101010 : ∀ (X : World) (n3 n6 n9 : Nat), Below n0 Wd X → RowAt (fun k : Nat => .int .i64 (k : Int)) X (.slice (some ⟨n3, 0, none⟩) 1 1) [0] → RowAt (fun k : Nat => .int .i64 (k : Int)) X (.slice (some ⟨n6, 0, none⟩) 1 1) [1] → RowAt (fun k : Nat => .int .i64 (k : Int)) X (.slice (some ⟨n9, 0, none⟩) 2 2) [0, 0] → wpAnyH Try.prog .any ops Q (fun Z => Only [w.heap.size + 1] Wd Z) 5 #[true, true, true, true, false, true, true, false, true, true, false, false, false] ⟨#[tval t (.slice sa t.args.length sc), .pointer (some ⟨w.heap.size, 0, none⟩), .pointer (some ⟨w.heap.size + 1, 0, none⟩), tval t (.slice sa t.args.length sc), fval (feat t []), tval t (.slice sa t.args.length sc), .slice (some ⟨n3, 0, none⟩) 1 1, undef, tval t (.slice sa t.args.length sc), .slice (some ⟨n6, 0, none⟩) 1 1, undef, tval t (.slice sa t.args.length sc), .slice (some ⟨n9, 0, none⟩) 2 2, undef, undef], []⟩ X := by
    intro X n3 n6 n9 bX r3 r6 r9
    subst hops hQ
    refine wpAnyH_ready (rs := [4]) (by kernel_rfl) (by simp) (AllReadyH.cons (o := ⟨_, _, _, _, _, _⟩) rfl (fun K hK => ?_) AllReadyH.nil)
    · rw [if_pos (by rfl)]
      go_simp
      refine (featureAt_any t _ [0] _ X (HA.out X bX) r3).mono ?_
      rintro e Y ⟨rfl, qY⟩
      have bY : Below n0 Wd Y := bX.trans (qY.mono (by have := bX.size; have := HN0.out; omega))
      refine hK.out _ _ (HSS.out _ bY) (fun _ => ?_)
      clear hK K
      try simp only [List.setIfInBounds_toArray, List.set_cons_zero, List.set_cons_succ]
      exact at_state (by kernel_rfl) (st1111010 Y n3 n6 n9 bY (r6.keep qY (Nat.le_refl _)) (r9.keep qY (Nat.le_refl _)))
  have st1110000 : ∀ (X : World) (n3 : Nat), Below n0 Wd X → wpAnyH Try.prog .any ops Q (fun Z => Only [w.heap.size + 1] Wd Z) 6 #[true, true, true, true, true, true, false, false, true, false, false, false, false] ⟨#[tval t (.slice sa t.args.length sc), .pointer (some ⟨w.heap.size, 0, none⟩), .pointer (some ⟨w.heap.size + 1, 0, none⟩), tval t (.slice sa t.args.length sc), fval (feat t []), tval t (.slice sa t.args.length sc), .slice (some ⟨n3, 0, none⟩) 1 1, fval (feat t [0]), tval t (.slice sa t.args.length sc), undef, undef, tval t (.slice sa t.args.length sc), undef, undef, undef], []⟩ X := by
    intro X n3 bX
    subst hops hQ
    refine wpAnyH_ready (rs := [6, 9]) (by kernel_rfl) (by simp) (AllReadyH.cons (o := ⟨_, _, _, _, _, _⟩) rfl (fun K hK => ?_) (AllReadyH.cons (o := ⟨_, _, _, _, _, _⟩) rfl (fun K hK => ?_) AllReadyH.nil))
    · rw [if_pos (by rfl)]
      go_simp
      obtain ⟨Y, hY⟩ : ∃ Z, X.alloc (.cells #[.int .i64 1] 3) = Z := ⟨_, rfl⟩
      have qY : Below X.heap.size X Y := by rw [← hY]; exact below_box _ _
      have r6 : RowAt (fun k : Nat => .int .i64 (k : Int)) Y (.slice (some ⟨X.heap.size, 0, none⟩) 1 1) [1] := by rw [← hY]; exact nums_built X [1] (by simp)
      rw [hY]
      have bY : Below n0 Wd Y := bX.trans (qY.mono (by have := bX.size; have := HN0.out; omega))
      refine hK.out _ _ (HSS.out _ bY) (fun _ => ?_)
      clear hK K
      try simp only [List.setIfInBounds_toArray, List.set_cons_zero, List.set_cons_succ]
      exact at_state (by kernel_rfl) (st1111000 Y n3 X.heap.size bY r6)
    · rw [if_pos (by rfl)]
      go_simp
      obtain ⟨Y, hY⟩ : ∃ Z, X.alloc (.cells #[.int .i64 0, .int .i64 0] 3) = Z := ⟨_, rfl⟩
      have qY : Below X.heap.size X Y := by rw [← hY]; exact below_box _ _
      have r9 : RowAt (fun k : Nat => .int .i64 (k : Int)) Y (.slice (some ⟨X.heap.size, 0, none⟩) 2 2) [0, 0] := by rw [← hY]; exact nums_built X [0, 0] (by simp)
      rw [hY]
      have bY : Below n0 Wd Y := bX.trans (qY.mono (by have := bX.size; have := HN0.out; omega))
      refine hK.out _ _ (HSS.out _ bY) (fun _ => ?_)
      clear hK K
      try simp only [List.setIfInBounds_toArray, List.set_cons_zero, List.set_cons_succ]
      exact at_state (by kernel_rfl) (st1110010 Y n3 X.heap.size bY r9)
  have st1101000 : ∀ (X : World) (n3 n6 : Nat), Below n0 Wd X → RowAt (fun k : Nat => .int .i64 (k : Int)) X (.slice (some ⟨n3, 0, none⟩) 1 1) [0] → RowAt (fun k : Nat => .int .i64 (k : Int)) X (.slice (some ⟨n6, 0, none⟩) 1 1) [1] → wpAnyH Try.prog .any ops Q (fun Z => Only [w.heap.size + 1] Wd Z) 6 #[true, true, true, true, false, true, true, false, true, false, false, false, false] ⟨#[tval t (.slice sa t.args.length sc), .pointer (some ⟨w.heap.size, 0, none⟩), .pointer (some ⟨w.heap.size + 1, 0, none⟩), tval t (.slice sa t.args.length sc), fval (feat t []), tval t (.slice sa t.args.length sc), .slice (some ⟨n3, 0, none⟩) 1 1, undef, tval t (.slice sa t.args.length sc), .slice (some ⟨n6, 0, none⟩) 1 1, undef, tval t (.slice sa t.args.length sc), undef, undef, undef], []⟩ X := by
    intro X n3 n6 bX r3 r6
    subst hops hQ
    refine wpAnyH_ready (rs := [4, 9]) (by kernel_rfl) (by simp) (AllReadyH.cons (o := ⟨_, _, _, _, _, _⟩) rfl (fun K hK => ?_) (AllReadyH.cons (o := ⟨_, _, _, _, _, _⟩) rfl (fun K hK => ?_) AllReadyH.nil))
    · rw [if_pos (by rfl)]
      go_simp
      refine (featureAt_any t _ [0] _ X (HA.out X bX) r3).mono ?_
      rintro e Y ⟨rfl, qY⟩
      have bY : Below n0 Wd Y := bX.trans (qY.mono (by have := bX.size; have := HN0.out; omega))
      refine hK.out _ _ (HSS.out _ bY) (fun _ => ?_)
      clear hK K
      try simp only [List.setIfInBounds_toArray, List.set_cons_zero, List.set_cons_succ]
      exact at_state (by kernel_rfl) (st1111000 Y n3 n6 bY (r6.keep qY (Nat.le_refl _)))
    · rw [if_pos (by rfl)]
      go_simp
      obtain ⟨Y, hY⟩ : ∃ Z, X.alloc (.cells #[.int .i64 0, .int .i64 0] 3) = Z := ⟨_, rfl⟩
      have qY : Below X.heap.size X Y := by rw [← hY]; exact below_box _ _
      have r9 : RowAt (fun k : Nat => .int .i64 (k : Int)) Y (.slice (some ⟨X.heap.size, 0, none⟩) 2 2) [0, 0] := by rw [← hY]; exact nums_built X [0, 0] (by simp)
      rw [hY]
      have bY : Below n0 Wd Y := bX.trans (qY.mono (by have := bX.size; have := HN0.out; omega))
      refine hK.out _ _ (HSS.out _ bY) (fun _ => ?_)
      clear hK K
      try simp only [List.setIfInBounds_toArray, List.set_cons_zero, List.set_cons_succ]
      exact at_state (by kernel_rfl) (st1101010 Y n3 n6 X.heap.size bY (r3.keep qY (Nat.le_refl _)) (r6.keep qY (Nat.le_refl _)) r9)
  have st1100010 : ∀ (X : World) (n3 n9 : Nat), Below n0 Wd X → RowAt (fun k : Nat => .int .i64 (k : Int)) X (.slice (some ⟨n3, 0, none⟩) 1 1) [0] → RowAt (fun k : Nat => .int .i64 (k : Int)) X (.slice (some ⟨n9, 0, none⟩) 2 2) [0, 0] → wpAnyH Try.prog .any ops Q (fun Z => Only [w.heap.size + 1] Wd Z) 6 #[true, true, true, true, false, true, false, false, true, true, false, false, false] ⟨#[tval t (.slice sa t.args.length sc), .pointer (some ⟨w.heap.size, 0, none⟩), .pointer (some ⟨w.heap.size + 1, 0, none⟩), tval t (.slice sa t.args.length sc), fval (feat t []), tval t (.slice sa t.args.length sc), .slice (some ⟨n3, 0, none⟩) 1 1, undef, tval t (.slice sa t.args.length sc), undef, undef, tval t (.slice sa t.args.length sc), .slice (some ⟨n9, 0, none⟩) 2 2, undef, undef], []⟩ X := by
    intro X n3 n9 bX r3 r9
    subst hops hQ
    refine wpAnyH_ready (rs := [4, 6]) (by kernel_rfl) (by simp) (AllReadyH.cons (o := ⟨_, _, _, _, _, _⟩) rfl (fun K hK => ?_) (AllReadyH.cons (o := ⟨_, _, _, _, _, _⟩) rfl (fun K hK => ?_) AllReadyH.nil))
    · rw [if_pos (by rfl)]
      go_simp
      refine (featureAt_any t _ [0] _ X (HA.out X bX) r3).mono ?_
      rintro e Y ⟨rfl, qY⟩
      have bY : Below n0 Wd Y := bX.trans (qY.mono (by have := bX.size; have := HN0.out; omega))
      refine hK.out _ _ (HSS.out _ bY) (fun _ => ?_)
      clear hK K
      try simp only [List.setIfInBounds_toArray, List.set_cons_zero, List.set_cons_succ]
      exact at_state (by kernel_rfl) (st1110010 Y n3 n9 bY (r9.keep qY (Nat.le_refl _)))
    · rw [if_pos (by rfl)]
      go_simp
      obtain ⟨Y, hY⟩ : ∃ Z, X.alloc (.cells #[.int .i64 1] 3) = Z := ⟨_, rfl⟩
      have qY : Below X.heap.size X Y := by rw [← hY]; exact below_box _ _
      have r6 : RowAt (fun k : Nat => .int .i64 (k : Int)) Y (.slice (some ⟨X.heap.size, 0, none⟩) 1 1) [1] := by rw [← hY]; exact nums_built X [1] (by simp)
      rw [hY]
      have bY : Below n0 Wd Y := bX.trans (qY.mono (by have := bX.size; have := HN0.out; omega))
      refine hK.out _ _ (HSS.out _ bY) (fun _ => ?_)
      clear hK K
      try simp only [List.setIfInBounds_toArray, List.set_cons_zero, List.set_cons_succ]
      exact at_state (by kernel_rfl) (st1101010 Y n3 X.heap.size n9 bY (r3.keep qY (Nat.le_refl _)) r6 (r9.keep qY (Nat.le_refl _)))
  have st1001010 : ∀ (X : World) (n6 n9 : Nat), Below n0 Wd X → RowAt (fun k : Nat => .int .i64 (k : Int)) X (.slice (some ⟨n6, 0, none⟩) 1 1) [1] → RowAt (fun k : Nat => .int .i64 (k : Int)) X (.slice (some ⟨n9, 0, none⟩) 2 2) [0, 0] → wpAnyH Try.prog .any ops Q (fun Z => Only [w.heap.size + 1] Wd Z) 6 #[true, true, true, false, false, true, true, false, true, true, false, false, false] ⟨#[tval t (.slice sa t.args.length sc), .pointer (some ⟨w.heap.size, 0, none⟩), .pointer (some ⟨w.heap.size + 1, 0, none⟩), tval t (.slice sa t.args.length sc), fval (feat t []), tval t (.slice sa t.args.length sc), undef, undef, tval t (.slice sa t.args.length sc), .slice (some ⟨n6, 0, none⟩) 1 1, undef, tval t (.slice sa t.args.length sc), .slice (some ⟨n9, 0, none⟩) 2 2, undef, undef], []⟩ X := by
    intro X n6 n9 bX r6 r9
    subst hops hQ
    refine wpAnyH_ready (rs := [3]) (by kernel_rfl) (by simp) (AllReadyH.cons (o := ⟨_, _, _, _, _, _⟩) rfl (fun K hK => ?_) AllReadyH.nil)
    · rw [if_pos (by rfl)]
      go_simp
      obtain ⟨Y, hY⟩ : ∃ Z, X.alloc (.cells #[.int .i64 0] 3) = Z := ⟨_, rfl⟩
      have qY : Below X.heap.size X Y := by rw [← hY]; exact below_box _ _
      have r3 : RowAt (fun k : Nat => .int .i64 (k : Int)) Y (.slice (some ⟨X.heap.size, 0, none⟩) 1 1) [0] := by rw [← hY]; exact nums_built X [0] (by simp)
      rw [hY]
      have bY : Below n0 Wd Y := bX.trans (qY.mono (by have := bX.size; have := HN0.out; omega))
      refine hK.out _ _ (HSS.out _ bY) (fun _ => ?_)
      clear hK K
      try simp only [List.setIfInBounds_toArray, List.set_cons_zero, List.set_cons_succ]
      exact at_state (by kernel_rfl) (st1101010 Y X.heap.size n6 n9 bY r3 (r6.keep qY (Nat.le_refl _)) (r9.keep qY (Nat.le_refl _)))
  have st0101010 : ∀ (X : World) (n3 n6 n9 : Nat), Below n0 Wd X → RowAt (fun k : Nat => .int .i64 (k : Int)) X (.slice (some ⟨n3, 0, none⟩) 1 1) [0] → RowAt (fun k : Nat => .int .i64 (k : Int)) X (.slice (some ⟨n6, 0, none⟩) 1 1) [1] → RowAt (fun k : Nat => .int .i64 (k : Int)) X (.slice (some ⟨n9, 0, none⟩) 2 2) [0, 0] → wpAnyH Try.prog .any ops Q (fun Z => Only [w.heap.size + 1] Wd Z) 6 #[true, false, true, true, false, true, true, false, true, true, false, false, false] ⟨#[tval t (.slice sa t.args.length sc), .pointer (some ⟨w.heap.size, 0, none⟩), .pointer (some ⟨w.heap.size + 1, 0, none⟩), tval t (.slice sa t.args.length sc), undef, tval t (.slice sa t.args.length sc), .slice (some ⟨n3, 0, none⟩) 1 1, undef, tval t (.slice sa t.args.length sc), .slice (some ⟨n6, 0, none⟩) 1 1, undef, tval t (.slice sa t.args.length sc), .slice (some ⟨n9, 0, none⟩) 2 2, undef, undef], []⟩ X := by
    intro X n3 n6 n9 bX r3 r6 r9
    subst hops hQ
    refine wpAnyH_ready (rs := [1]) (by kernel_rfl) (by simp) (AllReadyH.cons (o := ⟨_, _, _, _, _, _⟩) rfl (fun K hK => ?_) AllReadyH.nil)
    · rw [if_pos (by rfl)]
      go_simp
      refine (featureAt_any t _ [] _ X (HA.out X bX) (rnil X)).mono ?_
      rintro e Y ⟨rfl, qY⟩
      have bY : Below n0 Wd Y := bX.trans (qY.mono (by have := bX.size; have := HN0.out; omega))
      refine hK.out _ _ (HSS.out _ bY) (fun _ => ?_)
      clear hK K
      try simp only [List.setIfInBounds_toArray, List.set_cons_zero, List.set_cons_succ]
      exact at_state (by kernel_rfl) (st1101010 Y n3 n6 n9 bY (r3.keep qY (Nat.le_refl _)) (r6.keep qY (Nat.le_refl _)) (r9.keep qY (Nat.le_refl _)))
  have st1100000 : ∀ (X : World) (n3 : Nat), Below n0 Wd X → RowAt (fun k : Nat => .int .i64 (k : Int)) X (.slice (some ⟨n3, 0, none⟩) 1 1) [0] → wpAnyH Try.prog .any ops Q (fun Z => Only [w.heap.size + 1] Wd Z) 7 #[true, true, true, true, false, true, false, false, true, false, false, false, false] ⟨#[tval t (.slice sa t.args.length sc), .pointer (some ⟨w.heap.size, 0, none⟩), .pointer (some ⟨w.heap.size + 1, 0, none⟩), tval t (.slice sa t.args.length sc), fval (feat t []), tval t (.slice sa t.args.length sc), .slice (some ⟨n3, 0, none⟩) 1 1, undef, tval t (.slice sa t.args.length sc), undef, undef, tval t (.slice sa t.args.length sc), undef, undef, undef], []⟩ X := by
    intro X n3 bX r3
    subst hops hQ
    refine wpAnyH_ready (rs := [4, 6, 9]) (by kernel_rfl) (by simp) (AllReadyH.cons (o := ⟨_, _, _, _, _, _⟩) rfl (fun K hK => ?_) (AllReadyH.cons (o := ⟨_, _, _, _, _, _⟩) rfl (fun K hK => ?_) (AllReadyH.cons (o := ⟨_, _, _, _, _, _⟩) rfl (fun K hK => ?_) AllReadyH.nil)))
    · rw [if_pos (by rfl)]
      go_simp
      refine (featureAt_any t _ [0] _ X (HA.out X bX) r3).mono ?_
      rintro e Y ⟨rfl, qY⟩
      have bY : Below n0 Wd Y := bX.trans (qY.mono (by have := bX.size; have := HN0.out; omega))
      refine hK.out _ _ (HSS.out _ bY) (fun _ => ?_)
      clear hK K
      try simp only [List.setIfInBounds_toArray, List.set_cons_zero, List.set_cons_succ]
      exact at_state (by kernel_rfl) (st1110000 Y n3 bY)
    · rw [if_pos (by rfl)]
      go_simp
      obtain ⟨Y, hY⟩ : ∃ Z, X.alloc (.cells #[.int .i64 1] 3) = Z := ⟨_, rfl⟩
      have qY : Below X.heap.size X Y := by rw [← hY]; exact below_box _ _
      have r6 : RowAt (fun k : Nat => .int .i64 (k : Int)) Y (.slice (some ⟨X.heap.size, 0, none⟩) 1 1) [1] := by rw [← hY]; exact nums_built X [1] (by simp)
      rw [hY]
      have bY : Below n0 Wd Y := bX.trans (qY.mono (by have := bX.size; have := HN0.out; omega))
      refine hK.out _ _ (HSS.out _ bY) (fun _ => ?_)
      clear hK K
      try simp only [List.setIfInBounds_toArray, List.set_cons_zero, List.set_cons_succ]
      exact at_state (by kernel_rfl) (st1101000 Y n3 X.heap.size bY (r3.keep qY (Nat.le_refl _)) r6)
    · rw [if_pos (by rfl)]
      go_simp
      obtain ⟨Y, hY⟩ : ∃ Z, X.alloc (.cells #[.int .i64 0, .int .i64 0] 3) = Z := ⟨_, rfl⟩
      have qY : Below X.heap.size X Y := by rw [← hY]; exact below_box _ _
      have r9 : RowAt (fun k : Nat => .int .i64 (k : Int)) Y (.slice (some ⟨X.heap.size, 0, none⟩) 2 2) [0, 0] := by rw [← hY]; exact nums_built X [0, 0] (by simp)
      rw [hY]
      have bY : Below n0 Wd Y := bX.trans (qY.mono (by have := bX.size; have := HN0.out; omega))
      refine hK.out _ _ (HSS.out _ bY) (fun _ => ?_)
      clear hK K
      try simp only [List.setIfInBounds_toArray, List.set_cons_zero, List.set_cons_succ]
      exact at_state (by kernel_rfl) (st1100010 Y n3 X.heap.size bY (r3.keep qY (Nat.le_refl _)) r9)
  have st1001000 : ∀ (X : World) (n6 : Nat), Below n0 Wd X → RowAt (fun k : Nat => .int .i64 (k : Int)) X (.slice (some ⟨n6, 0, none⟩) 1 1) [1] → wpAnyH Try.prog .any ops Q (fun Z => Only [w.heap.size + 1] Wd Z) 7 #[true, true, true, false, false, true, true, false, true, false, false, false, false] ⟨#[tval t (.slice sa t.args.length sc), .pointer (some ⟨w.heap.size, 0, none⟩), .pointer (some ⟨w.heap.size + 1, 0, none⟩), tval t (.slice sa t.args.length sc), fval (feat t []), tval t (.slice sa t.args.length sc), undef, undef, tval t (.slice sa t.args.length sc), .slice (some ⟨n6, 0, none⟩) 1 1, undef, tval t (.slice sa t.args.length sc), undef, undef, undef], []⟩ X := by
    intro X n6 bX r6
    subst hops hQ
    refine wpAnyH_ready (rs := [3, 9]) (by kernel_rfl) (by simp) (AllReadyH.cons (o := ⟨_, _, _, _, _, _⟩) rfl (fun K hK => ?_) (AllReadyH.cons (o := ⟨_, _, _, _, _, _⟩) rfl (fun K hK => ?_) AllReadyH.nil))
    · rw [if_pos (by rfl)]
      go_simp
      obtain ⟨Y, hY⟩ : ∃ Z, X.alloc (.cells #[.int .i64 0] 3) = Z := ⟨_, rfl⟩
      have qY : Below X.heap.size X Y := by rw [← hY]; exact below_box _ _
      have r3 : RowAt (fun k : Nat => .int .i64 (k : Int)) Y (.slice (some ⟨X.heap.size, 0, none⟩) 1 1) [0] := by rw [← hY]; exact nums_built X [0] (by simp)
      rw [hY]
      have bY : Below n0 Wd Y := bX.trans (qY.mono (by have := bX.size; have := HN0.out; omega))
      refine hK.out _ _ (HSS.out _ bY) (fun _ => ?_)
      clear hK K
      try simp only [List.setIfInBounds_toArray, List.set_cons_zero, List.set_cons_succ]
      exact at_state (by kernel_rfl) (st1101000 Y X.heap.size n6 bY r3 (r6.keep qY (Nat.le_refl _)))
    · rw [if_pos (by rfl)]
      go_simp
      obtain ⟨Y, hY⟩ : ∃ Z, X.alloc (.cells #[.int .i64 0, .int .i64 0] 3) = Z := ⟨_, rfl⟩
      have qY : Below X.heap.size X Y := by rw [← hY]; exact below_box _ _
      have r9 : RowAt (fun k : Nat => .int .i64 (k : Int)) Y (.slice (some ⟨X.heap.size, 0, none⟩) 2 2) [0, 0] := by rw [← hY]; exact nums_built X [0, 0] (by simp)
      rw [hY]
      have bY : Below n0 Wd Y := bX.trans (qY.mono (by have := bX.size; have := HN0.out; omega))
      refine hK.out _ _ (HSS.out _ bY) (fun _ => ?_)
      clear hK K
      try simp only [List.setIfInBounds_toArray, List.set_cons_zero, List.set_cons_succ]
      exact at_state (by kernel_rfl) (st1001010 Y n6 X.heap.size bY (r6.keep qY (Nat.le_refl _)) r9)
  have st1000010 : ∀ (X : World) (n9 : Nat), Below n0 Wd X → RowAt (fun k : Nat => .int .i64 (k : Int)) X (.slice (some ⟨n9, 0, none⟩) 2 2) [0, 0] → wpAnyH Try.prog .any ops Q (fun Z => Only [w.heap.size + 1] Wd Z) 7 #[true, true, true, false, false, true, false, false, true, true, false, false, false] ⟨#[tval t (.slice sa t.args.length sc), .pointer (some ⟨w.heap.size, 0, none⟩), .pointer (some ⟨w.heap.size + 1, 0, none⟩), tval t (.slice sa t.args.length sc), fval (feat t []), tval t (.slice sa t.args.length sc), undef, undef, tval t (.slice sa t.args.length sc), undef, undef, tval t (.slice sa t.args.length sc), .slice (some ⟨n9, 0, none⟩) 2 2, undef, undef], []⟩ X := by
    intro X n9 bX r9
    subst hops hQ
    refine wpAnyH_ready (rs := [3, 6]) (by kernel_rfl) (by simp) (AllReadyH.cons (o := ⟨_, _, _, _, _, _⟩) rfl (fun K hK => ?_) (AllReadyH.cons (o := ⟨_, _, _, _, _, _⟩) rfl (fun K hK => ?_) AllReadyH.nil))
    · rw [if_pos (by rfl)]
      go_simp
      obtain ⟨Y, hY⟩ : ∃ Z, X.alloc (.cells #[.int .i64 0] 3) = Z := ⟨_, rfl⟩
      have qY : Below X.heap.size X Y := by rw [← hY]; exact below_box _ _
      have r3 : RowAt (fun k : Nat => .int .i64 (k : Int)) Y (.slice (some ⟨X.heap.size, 0, none⟩) 1 1) [0] := by rw [← hY]; exact nums_built X [0] (by simp)
      rw [hY]
      have bY : Below n0 Wd Y := bX.trans (qY.mono (by have := bX.size; have := HN0.out; omega))
      refine hK.out _ _ (HSS.out _ bY) (fun _ => ?_)
      clear hK K
      try simp only [List.setIfInBounds_toArray, List.set_cons_zero, List.set_cons_succ]
      exact at_state (by kernel_rfl) (st1100010 Y X.heap.size n9 bY r3 (r9.keep qY (Nat.le_refl _)))
    · rw [if_pos (by rfl)]
      go_simp
      obtain ⟨Y, hY⟩ : ∃ Z, X.alloc (.cells #[.int .i64 1] 3) = Z := ⟨_, rfl⟩
      have qY : Below X.heap.size X Y := by rw [← hY]; exact below_box _ _
      have r6 : RowAt (fun k : Nat => .int .i64 (k : Int)) Y (.slice (some ⟨X.heap.size, 0, none⟩) 1 1) [1] := by rw [← hY]; exact nums_built X [1] (by simp)
      rw [hY]
      have bY : Below n0 Wd Y := bX.trans (qY.mono (by have := bX.size; have := HN0.out; omega))
      refine hK.out _ _ (HSS.out _ bY) (fun _ => ?_)
      clear hK K
      try simp only [List.setIfInBounds_toArray, List.set_cons_zero, List.set_cons_succ]
      exact at_state (by kernel_rfl) (st1001010 Y X.heap.size n9 bY r6 (r9.keep qY (Nat.le_refl _)))
  have st0101000 : ∀ (X : World) (n3 n6 : Nat), Below n0 Wd X → RowAt (fun k : Nat => .int .i64 (k : Int)) X (.slice (some ⟨n3, 0, none⟩) 1 1) [0] → RowAt (fun k : Nat => .int .i64 (k : Int)) X (.slice (some ⟨n6, 0, none⟩) 1 1) [1] → wpAnyH Try.prog .any ops Q (fun Z => Only [w.heap.size + 1] Wd Z) 7 #[true, false, true, true, false, true, true, false, true, false, false, false, false] ⟨#[tval t (.slice sa t.args.length sc), .pointer (some ⟨w.heap.size, 0, none⟩), .pointer (some ⟨w.heap.size + 1, 0, none⟩), tval t (.slice sa t.args.length sc), undef, tval t (.slice sa t.args.length sc), .slice (some ⟨n3, 0, none⟩) 1 1, undef, tval t (.slice sa t.args.length sc), .slice (some ⟨n6, 0, none⟩) 1 1, undef, tval t (.slice sa t.args.length sc), undef, undef, undef], []⟩ X := by
    intro X n3 n6 bX r3 r6
    subst hops hQ
    refine wpAnyH_ready (rs := [1, 9]) (by kernel_rfl) (by simp) (AllReadyH.cons (o := ⟨_, _, _, _, _, _⟩) rfl (fun K hK => ?_) (AllReadyH.cons (o := ⟨_, _, _, _, _, _⟩) rfl (fun K hK => ?_) AllReadyH.nil))
    · rw [if_pos (by rfl)]
      go_simp
      refine (featureAt_any t _ [] _ X (HA.out X bX) (rnil X)).mono ?_
      rintro e Y ⟨rfl, qY⟩
      have bY : Below n0 Wd Y := bX.trans (qY.mono (by have := bX.size; have := HN0.out; omega))
      refine hK.out _ _ (HSS.out _ bY) (fun _ => ?_)
      clear hK K
      try simp only [List.setIfInBounds_toArray, List.set_cons_zero, List.set_cons_succ]
      exact at_state (by kernel_rfl) (st1101000 Y n3 n6 bY (r3.keep qY (Nat.le_refl _)) (r6.keep qY (Nat.le_refl _)))
    · rw [if_pos (by rfl)]
      go_simp
      obtain ⟨Y, hY⟩ : ∃ Z, X.alloc (.cells #[.int .i64 0, .int .i64 0] 3) = Z := ⟨_, rfl⟩
      have qY : Below X.heap.size X Y := by rw [← hY]; exact below_box _ _
      have r9 : RowAt (fun k : Nat => .int .i64 (k : Int)) Y (.slice (some ⟨X.heap.size, 0, none⟩) 2 2) [0, 0] := by rw [← hY]; exact nums_built X [0, 0] (by simp)
      rw [hY]
      have bY : Below n0 Wd Y := bX.trans (qY.mono (by have := bX.size; have := HN0.out; omega))
      refine hK.out _ _ (HSS.out _ bY) (fun _ => ?_)
      clear hK K
      try simp only [List.setIfInBounds_toArray, List.set_cons_zero, List.set_cons_succ]
      exact at_state (by kernel_rfl) (st0101010 Y n3 n6 X.heap.size bY (r3.keep qY (Nat.le_refl _)) (r6.keep qY (Nat.le_refl _)) r9)
  have st0100010 : ∀ (X : World) (n3 n9 : Nat), Below n0 Wd X → RowAt (fun k : Nat => .int .i64 (k : Int)) X (.slice (some ⟨n3, 0, none⟩) 1 1) [0] → RowAt (fun k : Nat => .int .i64 (k : Int)) X (.slice (some ⟨n9, 0, none⟩) 2 2) [0, 0] → wpAnyH Try.prog .any ops Q (fun Z => Only [w.heap.size + 1] Wd Z) 7 #[true, false, true, true, false, true, false, false, true, true, false, false, false] ⟨#[tval t (.slice sa t.args.length sc), .pointer (some ⟨w.heap.size, 0, none⟩), .pointer (some ⟨w.heap.size + 1, 0, none⟩), tval t (.slice sa t.args.length sc), undef, tval t (.slice sa t.args.length sc), .slice (some ⟨n3, 0, none⟩) 1 1, undef, tval t (.slice sa t.args.length sc), undef, undef, tval t (.slice sa t.args.length sc), .slice (some ⟨n9, 0, none⟩) 2 2, undef, undef], []⟩ X := by
    intro X n3 n9 bX r3 r9
    subst hops hQ
    refine wpAnyH_ready (rs := [1, 6]) (by kernel_rfl) (by simp) (AllReadyH.cons (o := ⟨_, _, _, _, _, _⟩) rfl (fun K hK => ?_) (AllReadyH.cons (o := ⟨_, _, _, _, _, _⟩) rfl (fun K hK => ?_) AllReadyH.nil))
    · rw [if_pos (by rfl)]
      go_simp
      refine (featureAt_any t _ [] _ X (HA.out X bX) (rnil X)).mono ?_
      rintro e Y ⟨rfl, qY⟩
      have bY : Below n0 Wd Y := bX.trans (qY.mono (by have := bX.size; have := HN0.out; omega))
      refine hK.out _ _ (HSS.out _ bY) (fun _ => ?_)
      clear hK K
      try simp only [List.setIfInBounds_toArray, List.set_cons_zero, List.set_cons_succ]
      exact at_state (by kernel_rfl) (st1100010 Y n3 n9 bY (r3.keep qY (Nat.le_refl _)) (r9.keep qY (Nat.le_refl _)))
    · rw [if_pos (by rfl)]
      go_simp
      obtain ⟨Y, hY⟩ : ∃ Z, X.alloc (.cells #[.int .i64 1] 3) = Z := ⟨_, rfl⟩
      have qY : Below X.heap.size X Y := by rw [← hY]; exact below_box _ _
      have r6 : RowAt (fun k : Nat => .int .i64 (k : Int)) Y (.slice (some ⟨X.heap.size, 0, none⟩) 1 1) [1] := by rw [← hY]; exact nums_built X [1] (by simp)
      rw [hY]
      have bY : Below n0 Wd Y := bX.trans (qY.mono (by have := bX.size; have := HN0.out; omega))
      refine hK.out _ _ (HSS.out _ bY) (fun _ => ?_)
      clear hK K
      try simp only [List.setIfInBounds_toArray, List.set_cons_zero, List.set_cons_succ]
      exact at_state (by kernel_rfl) (st0101010 Y n3 X.heap.size n9 bY (r3.keep qY (Nat.le_refl _)) r6 (r9.keep qY (Nat.le_refl _)))
  have st0001010 : ∀ (X : World) (n6 n9 : Nat), Below n0 Wd X → RowAt (fun k : Nat => .int .i64 (k : Int)) X (.slice (some ⟨n6, 0, none⟩) 1 1) [1] → RowAt (fun k : Nat => .int .i64 (k : Int)) X (.slice (some ⟨n9, 0, none⟩) 2 2) [0, 0] → wpAnyH Try.prog .any ops Q (fun Z => Only [w.heap.size + 1] Wd Z) 7 #[true, false, true, false, false, true, true, false, true, true, false, false, false] ⟨#[tval t (.slice sa t.args.length sc), .pointer (some ⟨w.heap.size, 0, none⟩), .pointer (some ⟨w.heap.size + 1, 0, none⟩), tval t (.slice sa t.args.length sc), undef, tval t (.slice sa t.args.length sc), undef, undef, tval t (.slice sa t.args.length sc), .slice (some ⟨n6, 0, none⟩) 1 1, undef, tval t (.slice sa t.args.length sc), .slice (some ⟨n9, 0, none⟩) 2 2, undef, undef], []⟩ X := by
    intro X n6 n9 bX r6 r9
    subst hops hQ
    refine wpAnyH_ready (rs := [1, 3]) (by kernel_rfl) (by simp) (AllReadyH.cons (o := ⟨_, _, _, _, _, _⟩) rfl (fun K hK => ?_) (AllReadyH.cons (o := ⟨_, _, _, _, _, _⟩) rfl (fun K hK => ?_) AllReadyH.nil))
    · rw [if_pos (by rfl)]
      go_simp
      refine (featureAt_any t _ [] _ X (HA.out X bX) (rnil X)).mono ?_
      rintro e Y ⟨rfl, qY⟩
      have bY : Below n0 Wd Y := bX.trans (qY.mono (by have := bX.size; have := HN0.out; omega))
      refine hK.out _ _ (HSS.out _ bY) (fun _ => ?_)
      clear hK K
      try simp only [List.setIfInBounds_toArray, List.set_cons_zero, List.set_cons_succ]
      exact at_state (by kernel_rfl) (st1001010 Y n6 n9 bY (r6.keep qY (Nat.le_refl _)) (r9.keep qY (Nat.le_refl _)))
    · rw [if_pos (by rfl)]
      go_simp
      obtain ⟨Y, hY⟩ : ∃ Z, X.alloc (.cells #[.int .i64 0] 3) = Z := ⟨_, rfl⟩
      have qY : Below X.heap.size X Y := by rw [← hY]; exact below_box _ _
      have r3 : RowAt (fun k : Nat => .int .i64 (k : Int)) Y (.slice (some ⟨X.heap.size, 0, none⟩) 1 1) [0] := by rw [← hY]; exact nums_built X [0] (by simp)
      rw [hY]
      have bY : Below n0 Wd Y := bX.trans (qY.mono (by have := bX.size; have := HN0.out; omega))
      refine hK.out _ _ (HSS.out _ bY) (fun _ => ?_)
      clear hK K
      try simp only [List.setIfInBounds_toArray, List.set_cons_zero, List.set_cons_succ]
      exact at_state (by kernel_rfl) (st0101010 Y X.heap.size n6 n9 bY r3 (r6.keep qY (Nat.le_refl _)) (r9.keep qY (Nat.le_refl _)))
  have st1000000 : ∀ (X : World), Below n0 Wd X → wpAnyH Try.prog .any ops Q (fun Z => Only [w.heap.size + 1] Wd Z) 8 #[true, true, true, false, false, true, false, false, true, false, false, false, false] ⟨#[tval t (.slice sa t.args.length sc), .pointer (some ⟨w.heap.size, 0, none⟩), .pointer (some ⟨w.heap.size + 1, 0, none⟩), tval t (.slice sa t.args.length sc), fval (feat t []), tval t (.slice sa t.args.length sc), undef, undef, tval t (.slice sa t.args.length sc), undef, undef, tval t (.slice sa t.args.length sc), undef, undef, undef], []⟩ X := by
    intro X bX
    subst hops hQ
    refine wpAnyH_ready (rs := [3, 6, 9]) (by kernel_rfl) (by simp) (AllReadyH.cons (o := ⟨_, _, _, _, _, _⟩) rfl (fun K hK => ?_) (AllReadyH.cons (o := ⟨_, _, _, _, _, _⟩) rfl (fun K hK => ?_) (AllReadyH.cons (o := ⟨_, _, _, _, _, _⟩) rfl (fun K hK => ?_) AllReadyH.nil)))
    · rw [if_pos (by rfl)]
      go_simp
      obtain ⟨Y, hY⟩ : ∃ Z, X.alloc (.cells #[.int .i64 0] 3) = Z := ⟨_, rfl⟩
      have qY : Below X.heap.size X Y := by rw [← hY]; exact below_box _ _
      have r3 : RowAt (fun k : Nat => .int .i64 (k : Int)) Y (.slice (some ⟨X.heap.size, 0, none⟩) 1 1) [0] := by rw [← hY]; exact nums_built X [0] (by simp)
      rw [hY]
      have bY : Below n0 Wd Y := bX.trans (qY.mono (by have := bX.size; have := HN0.out; omega))
      refine hK.out _ _ (HSS.out _ bY) (fun _ => ?_)
      clear hK K
      try simp only [List.setIfInBounds_toArray, List.set_cons_zero, List.set_cons_succ]
      exact at_state (by kernel_rfl) (st1100000 Y X.heap.size bY r3)
    · rw [if_pos (by rfl)]
      go_simp
      obtain ⟨Y, hY⟩ : ∃ Z, X.alloc (.cells #[.int .i64 1] 3) = Z := ⟨_, rfl⟩
      have qY : Below X.heap.size X Y := by rw [← hY]; exact below_box _ _
      have r6 : RowAt (fun k : Nat => .int .i64 (k : Int)) Y (.slice (some ⟨X.heap.size, 0, none⟩) 1 1) [1] := by rw [← hY]; exact nums_built X [1] (by simp)
      rw [hY]
      have bY : Below n0 Wd Y := bX.trans (qY.mono (by have := bX.size; have := HN0.out; omega))
      refine hK.out _ _ (HSS.out _ bY) (fun _ => ?_)
      clear hK K
      try simp only [List.setIfInBounds_toArray, List.set_cons_zero, List.set_cons_succ]
      exact at_state (by kernel_rfl) (st1001000 Y X.heap.size bY r6)
    · rw [if_pos (by rfl)]
      go_simp
      obtain ⟨Y, hY⟩ : ∃ Z, X.alloc (.cells #[.int .i64 0, .int .i64 0] 3) = Z := ⟨_, rfl⟩
      have qY : Below X.heap.size X Y := by rw [← hY]; exact below_box _ _
      have r9 : RowAt (fun k : Nat => .int .i64 (k : Int)) Y (.slice (some ⟨X.heap.size, 0, none⟩) 2 2) [0, 0] := by rw [← hY]; exact nums_built X [0, 0] (by simp)
      rw [hY]
      have bY : Below n0 Wd Y := bX.trans (qY.mono (by have := bX.size; have := HN0.out; omega))
      refine hK.out _ _ (HSS.out _ bY) (fun _ => ?_)
      clear hK K
      try simp only [List.setIfInBounds_toArray, List.set_cons_zero, List.set_cons_succ]
      exact at_state (by kernel_rfl) (st1000010 Y X.heap.size bY r9)
  have st0100000 : ∀ (X : World) (n3 : Nat), Below n0 Wd X → RowAt (fun k : Nat => .int .i64 (k : Int)) X (.slice (some ⟨n3, 0, none⟩) 1 1) [0] → wpAnyH Try.prog .any ops Q (fun Z => Only [w.heap.size + 1] Wd Z) 8 #[true, false, true, true, false, true, false, false, true, false, false, false, false] ⟨#[tval t (.slice sa t.args.length sc), .pointer (some ⟨w.heap.size, 0, none⟩), .pointer (some ⟨w.heap.size + 1, 0, none⟩), tval t (.slice sa t.args.length sc), undef, tval t (.slice sa t.args.length sc), .slice (some ⟨n3, 0, none⟩) 1 1, undef, tval t (.slice sa t.args.length sc), undef, undef, tval t (.slice sa t.args.length sc), undef, undef, undef], []⟩ X := by
    intro X n3 bX r3
    subst hops hQ
    refine wpAnyH_ready (rs := [1, 6, 9]) (by kernel_rfl) (by simp) (AllReadyH.cons (o := ⟨_, _, _, _, _, _⟩) rfl (fun K hK => ?_) (AllReadyH.cons (o := ⟨_, _, _, _, _, _⟩) rfl (fun K hK => ?_) (AllReadyH.cons (o := ⟨_, _, _, _, _, _⟩) rfl (fun K hK => ?_) AllReadyH.nil)))
    · rw [if_pos (by rfl)]
      go_simp
      refine (featureAt_any t _ [] _ X (HA.out X bX) (rnil X)).mono ?_
      rintro e Y ⟨rfl, qY⟩
      have bY : Below n0 Wd Y := bX.trans (qY.mono (by have := bX.size; have := HN0.out; omega))
      refine hK.out _ _ (HSS.out _ bY) (fun _ => ?_)
      clear hK K
      try simp only [List.setIfInBounds_toArray, List.set_cons_zero, List.set_cons_succ]
      exact at_state (by kernel_rfl) (st1100000 Y n3 bY (r3.keep qY (Nat.le_refl _)))
    · rw [if_pos (by rfl)]
      go_simp
      obtain ⟨Y, hY⟩ : ∃ Z, X.alloc (.cells #[.int .i64 1] 3) = Z := ⟨_, rfl⟩
      have qY : Below X.heap.size X Y := by rw [← hY]; exact below_box _ _
      have r6 : RowAt (fun k : Nat => .int .i64 (k : Int)) Y (.slice (some ⟨X.heap.size, 0, none⟩) 1 1) [1] := by rw [← hY]; exact nums_built X [1] (by simp)
      rw [hY]
      have bY : Below n0 Wd Y := bX.trans (qY.mono (by have := bX.size; have := HN0.out; omega))
      refine hK.out _ _ (HSS.out _ bY) (fun _ => ?_)
      clear hK K
      try simp only [List.setIfInBounds_toArray, List.set_cons_zero, List.set_cons_succ]
      exact at_state (by kernel_rfl) (st0101000 Y n3 X.heap.size bY (r3.keep qY (Nat.le_refl _)) r6)
    · rw [if_pos (by rfl)]
      go_simp
      obtain ⟨Y, hY⟩ : ∃ Z, X.alloc (.cells #[.int .i64 0, .int .i64 0] 3) = Z := ⟨_, rfl⟩
      have qY : Below X.heap.size X Y := by rw [← hY]; exact below_box _ _
      have r9 : RowAt (fun k : Nat => .int .i64 (k : Int)) Y (.slice (some ⟨X.heap.size, 0, none⟩) 2 2) [0, 0] := by rw [← hY]; exact nums_built X [0, 0] (by simp)
      rw [hY]
      have bY : Below n0 Wd Y := bX.trans (qY.mono (by have := bX.size; have := HN0.out; omega))
      refine hK.out _ _ (HSS.out _ bY) (fun _ => ?_)
      clear hK K
      try simp only [List.setIfInBounds_toArray, List.set_cons_zero, List.set_cons_succ]
      exact at_state (by kernel_rfl) (st0100010 Y n3 X.heap.size bY (r3.keep qY (Nat.le_refl _)) r9)
  have st0001000 : ∀ (X : World) (n6 : Nat), Below n0 Wd X → RowAt (fun k : Nat => .int .i64 (k : Int)) X (.slice (some ⟨n6, 0, none⟩) 1 1) [1] → wpAnyH Try.prog .any ops Q (fun Z => Only [w.heap.size + 1] Wd Z) 8 #[true, false, true, false, false, true, true, false, true, false, false, false, false] ⟨#[tval t (.slice sa t.args.length sc), .pointer (some ⟨w.heap.size, 0, none⟩), .pointer (some ⟨w.heap.size + 1, 0, none⟩), tval t (.slice sa t.args.length sc), undef, tval t (.slice sa t.args.length sc), undef, undef, tval t (.slice sa t.args.length sc), .slice (some ⟨n6, 0, none⟩) 1 1, undef, tval t (.slice sa t.args.length sc), undef, undef, undef], []⟩ X := by
    intro X n6 bX r6
    subst hops hQ
    refine wpAnyH_ready (rs := [1, 3, 9]) (by kernel_rfl) (by simp) (AllReadyH.cons (o := ⟨_, _, _, _, _, _⟩) rfl (fun K hK => ?_) (AllReadyH.cons (o := ⟨_, _, _, _, _, _⟩) rfl (fun K hK => ?_) (AllReadyH.cons (o := ⟨_, _, _, _, _, _⟩) rfl (fun K hK => ?_) AllReadyH.nil)))
    · rw [if_pos (by rfl)]
      go_simp
      refine (featureAt_any t _ [] _ X (HA.out X bX) (rnil X)).mono ?_
      rintro e Y ⟨rfl, qY⟩
      have bY : Below n0 Wd Y := bX.trans (qY.mono (by have := bX.size; have := HN0.out; omega))
      refine hK.out _ _ (HSS.out _ bY) (fun _ => ?_)
      clear hK K
      try simp only [List.setIfInBounds_toArray, List.set_cons_zero, List.set_cons_succ]
      exact at_state (by kernel_rfl) (st1001000 Y n6 bY (r6.keep qY (Nat.le_refl _)))
    · rw [if_pos (by rfl)]
      go_simp
      obtain ⟨Y, hY⟩ : ∃ Z, X.alloc (.cells #[.int .i64 0] 3) = Z := ⟨_, rfl⟩
      have qY : Below X.heap.size X Y := by rw [← hY]; exact below_box _ _
      have r3 : RowAt (fun k : Nat => .int .i64 (k : Int)) Y (.slice (some ⟨X.heap.size, 0, none⟩) 1 1) [0] := by rw [← hY]; exact nums_built X [0] (by simp)
      rw [hY]
      have bY : Below n0 Wd Y := bX.trans (qY.mono (by have := bX.size; have := HN0.out; omega))
      refine hK.out _ _ (HSS.out _ bY) (fun _ => ?_)
      clear hK K
      try simp only [List.setIfInBounds_toArray, List.set_cons_zero, List.set_cons_succ]
      exact at_state (by kernel_rfl) (st0101000 Y X.heap.size n6 bY r3 (r6.keep qY (Nat.le_refl _)))
    · rw [if_pos (by rfl)]
      go_simp
      obtain ⟨Y, hY⟩ : ∃ Z, X.alloc (.cells #[.int .i64 0, .int .i64 0] 3) = Z := ⟨_, rfl⟩
      have qY : Below X.heap.size X Y := by rw [← hY]; exact below_box _ _
      have r9 : RowAt (fun k : Nat => .int .i64 (k : Int)) Y (.slice (some ⟨X.heap.size, 0, none⟩) 2 2) [0, 0] := by rw [← hY]; exact nums_built X [0, 0] (by simp)
      rw [hY]
      have bY : Below n0 Wd Y := bX.trans (qY.mono (by have := bX.size; have := HN0.out; omega))
      refine hK.out _ _ (HSS.out _ bY) (fun _ => ?_)
      clear hK K
      try simp only [List.setIfInBounds_toArray, List.set_cons_zero, List.set_cons_succ]
      exact at_state (by kernel_rfl) (st0001010 Y n6 X.heap.size bY (r6.keep qY (Nat.le_refl _)) r9)
  have st0000010 : ∀ (X : World) (n9 : Nat), Below n0 Wd X → RowAt (fun k : Nat => .int .i64 (k : Int)) X (.slice (some ⟨n9, 0, none⟩) 2 2) [0, 0] → wpAnyH Try.prog .any ops Q (fun Z => Only [w.heap.size + 1] Wd Z) 8 #[true, false, true, false, false, true, false, false, true, true, false, false, false] ⟨#[tval t (.slice sa t.args.length sc), .pointer (some ⟨w.heap.size, 0, none⟩), .pointer (some ⟨w.heap.size + 1, 0, none⟩), tval t (.slice sa t.args.length sc), undef, tval t (.slice sa t.args.length sc), undef, undef, tval t (.slice sa t.args.length sc), undef, undef, tval t (.slice sa t.args.length sc), .slice (some ⟨n9, 0, none⟩) 2 2, undef, undef], []⟩ X := by
    intro X n9 bX r9
    subst hops hQ
    refine wpAnyH_ready (rs := [1, 3, 6]) (by kernel_rfl) (by simp) (AllReadyH.cons (o := ⟨_, _, _, _, _, _⟩) rfl (fun K hK => ?_) (AllReadyH.cons (o := ⟨_, _, _, _, _, _⟩) rfl (fun K hK => ?_) (AllReadyH.cons (o := ⟨_, _, _, _, _, _⟩) rfl (fun K hK => ?_) AllReadyH.nil)))
    · rw [if_pos (by rfl)]
      go_simp
      refine (featureAt_any t _ [] _ X (HA.out X bX) (rnil X)).mono ?_
      rintro e Y ⟨rfl, qY⟩
      have bY : Below n0 Wd Y := bX.trans (qY.mono (by have := bX.size; have := HN0.out; omega))
      refine hK.out _ _ (HSS.out _ bY) (fun _ => ?_)
      clear hK K
      try simp only [List.setIfInBounds_toArray, List.set_cons_zero, List.set_cons_succ]
      exact at_state (by kernel_rfl) (st1000010 Y n9 bY (r9.keep qY (Nat.le_refl _)))
    · rw [if_pos (by rfl)]
      go_simp
      obtain ⟨Y, hY⟩ : ∃ Z, X.alloc (.cells #[.int .i64 0] 3) = Z := ⟨_, rfl⟩
      have qY : Below X.heap.size X Y := by rw [← hY]; exact below_box _ _
      have r3 : RowAt (fun k : Nat => .int .i64 (k : Int)) Y (.slice (some ⟨X.heap.size, 0, none⟩) 1 1) [0] := by rw [← hY]; exact nums_built X [0] (by simp)
      rw [hY]
      have bY : Below n0 Wd Y := bX.trans (qY.mono (by have := bX.size; have := HN0.out; omega))
      refine hK.out _ _ (HSS.out _ bY) (fun _ => ?_)
      clear hK K
      try simp only [List.setIfInBounds_toArray, List.set_cons_zero, List.set_cons_succ]
      exact at_state (by kernel_rfl) (st0100010 Y X.heap.size n9 bY r3 (r9.keep qY (Nat.le_refl _)))
    · rw [if_pos (by rfl)]
      go_simp
      obtain ⟨Y, hY⟩ : ∃ Z, X.alloc (.cells #[.int .i64 1] 3) = Z := ⟨_, rfl⟩
      have qY : Below X.heap.size X Y := by rw [← hY]; exact below_box _ _
      have r6 : RowAt (fun k : Nat => .int .i64 (k : Int)) Y (.slice (some ⟨X.heap.size, 0, none⟩) 1 1) [1] := by rw [← hY]; exact nums_built X [1] (by simp)
      rw [hY]
      have bY : Below n0 Wd Y := bX.trans (qY.mono (by have := bX.size; have := HN0.out; omega))
      refine hK.out _ _ (HSS.out _ bY) (fun _ => ?_)
      clear hK K
      try simp only [List.setIfInBounds_toArray, List.set_cons_zero, List.set_cons_succ]
      exact at_state (by kernel_rfl) (st0001010 Y X.heap.size n9 bY r6 (r9.keep qY (Nat.le_refl _)))
  have st0000000 : ∀ (X : World), Below n0 Wd X → wpAnyH Try.prog .any ops Q (fun Z => Only [w.heap.size + 1] Wd Z) 9 #[true, false, true, false, false, true, false, false, true, false, false, false, false] ⟨#[tval t (.slice sa t.args.length sc), .pointer (some ⟨w.heap.size, 0, none⟩), .pointer (some ⟨w.heap.size + 1, 0, none⟩), tval t (.slice sa t.args.length sc), undef, tval t (.slice sa t.args.length sc), undef, undef, tval t (.slice sa t.args.length sc), undef, undef, tval t (.slice sa t.args.length sc), undef, undef, undef], []⟩ X := by
    intro X bX
    subst hops hQ
    refine wpAnyH_ready (rs := [1, 3, 6, 9]) (by kernel_rfl) (by simp) (AllReadyH.cons (o := ⟨_, _, _, _, _, _⟩) rfl (fun K hK => ?_) (AllReadyH.cons (o := ⟨_, _, _, _, _, _⟩) rfl (fun K hK => ?_) (AllReadyH.cons (o := ⟨_, _, _, _, _, _⟩) rfl (fun K hK => ?_) (AllReadyH.cons (o := ⟨_, _, _, _, _, _⟩) rfl (fun K hK => ?_) AllReadyH.nil))))
    · rw [if_pos (by rfl)]
      go_simp
      refine (featureAt_any t _ [] _ X (HA.out X bX) (rnil X)).mono ?_
      rintro e Y ⟨rfl, qY⟩
      have bY : Below n0 Wd Y := bX.trans (qY.mono (by have := bX.size; have := HN0.out; omega))
      refine hK.out _ _ (HSS.out _ bY) (fun _ => ?_)
      clear hK K
      try simp only [List.setIfInBounds_toArray, List.set_cons_zero, List.set_cons_succ]
      exact at_state (by kernel_rfl) (st1000000 Y bY)
    · rw [if_pos (by rfl)]
      go_simp
      obtain ⟨Y, hY⟩ : ∃ Z, X.alloc (.cells #[.int .i64 0] 3) = Z := ⟨_, rfl⟩
      have qY : Below X.heap.size X Y := by rw [← hY]; exact below_box _ _
      have r3 : RowAt (fun k : Nat => .int .i64 (k : Int)) Y (.slice (some ⟨X.heap.size, 0, none⟩) 1 1) [0] := by rw [← hY]; exact nums_built X [0] (by simp)
      rw [hY]
      have bY : Below n0 Wd Y := bX.trans (qY.mono (by have := bX.size; have := HN0.out; omega))
      refine hK.out _ _ (HSS.out _ bY) (fun _ => ?_)
      clear hK K
      try simp only [List.setIfInBounds_toArray, List.set_cons_zero, List.set_cons_succ]
      exact at_state (by kernel_rfl) (st0100000 Y X.heap.size bY r3)
    · rw [if_pos (by rfl)]
      go_simp
      obtain ⟨Y, hY⟩ : ∃ Z, X.alloc (.cells #[.int .i64 1] 3) = Z := ⟨_, rfl⟩
      have qY : Below X.heap.size X Y := by rw [← hY]; exact below_box _ _
      have r6 : RowAt (fun k : Nat => .int .i64 (k : Int)) Y (.slice (some ⟨X.heap.size, 0, none⟩) 1 1) [1] := by rw [← hY]; exact nums_built X [1] (by simp)
      rw [hY]
      have bY : Below n0 Wd Y := bX.trans (qY.mono (by have := bX.size; have := HN0.out; omega))
      refine hK.out _ _ (HSS.out _ bY) (fun _ => ?_)
      clear hK K
      try simp only [List.setIfInBounds_toArray, List.set_cons_zero, List.set_cons_succ]
      exact at_state (by kernel_rfl) (st0001000 Y X.heap.size bY r6)
    · rw [if_pos (by rfl)]
      go_simp
      obtain ⟨Y, hY⟩ : ∃ Z, X.alloc (.cells #[.int .i64 0, .int .i64 0] 3) = Z := ⟨_, rfl⟩
      have qY : Below X.heap.size X Y := by rw [← hY]; exact below_box _ _
      have r9 : RowAt (fun k : Nat => .int .i64 (k : Int)) Y (.slice (some ⟨X.heap.size, 0, none⟩) 2 2) [0, 0] := by rw [← hY]; exact nums_built X [0, 0] (by simp)
      rw [hY]
      have bY : Below n0 Wd Y := bX.trans (qY.mono (by have := bX.size; have := HN0.out; omega))
      refine hK.out _ _ (HSS.out _ bY) (fun _ => ?_)
      clear hK K
      try simp only [List.setIfInBounds_toArray, List.set_cons_zero, List.set_cons_succ]
      exact at_state (by kernel_rfl) (st0000010 Y X.heap.size bY r9)
  exact at_state (by kernel_rfl) (st0000000 Wd (Below.refl _ _))

end Go.Proofs.Ytiklbkkimmgbcaa
