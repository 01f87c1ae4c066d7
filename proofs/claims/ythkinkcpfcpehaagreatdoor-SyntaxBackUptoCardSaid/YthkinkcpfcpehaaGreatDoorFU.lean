import Derived.Test.YthkinkcpfcpehaaGreatDoorFT
namespace Go.Proofs.YthkinkcpfcpehaaGreatDoor
set_option maxRecDepth 100000
set_option maxHeartbeats 4000000
open Go.RowKit
/-- No atom has kids; no place in a term is too long. -/
def Fm.sane : Fm → Prop
  | .mk k _ l r ks => (k = 1 → Short l ∧ Short r ∧ ks = []) ∧ sanes ks
where sanes : List Fm → Prop
  | [] => True
  | a :: r => a.sane ∧ sanes r
theorem sanes_mem : ∀ {l : List Fm}, Fm.sane.sanes l → ∀ a ∈ l, a.sane
  | b :: r, h, a, ha => by
    rw [Fm.sane.sanes] at h
    rcases List.mem_cons.1 ha with rfl | ha
    · exact h.1
    · exact sanes_mem h.2 a ha
theorem Fm.sane_kids {f : Fm} (h : f.sane) : ∀ a ∈ f.kids, a.sane := by
  cases f with
  | mk k n l r ks => rw [Fm.sane] at h; exact sanes_mem h.2
theorem Fm.sane_atom {f : Fm} (h : f.sane) (hk : f.k = 1) : Short f.l ∧ Short f.r ∧ f.kids = [] := by
  cases f with
  | mk k n l r ks => rw [Fm.sane] at h; exact h.1 hk
theorem size_atom {f : Fm} (h : f.sane) (hk : f.k = 1) : f.size = 1 + f.l.size + f.r.size := by
  have h3 := (Fm.sane_atom h hk).2.2
  cases f with
  | mk k n l r ks =>
    have h3' : ks = [] := h3
    have hk' : k = 1 := hk
    subst h3' hk'
    show Fm.size (.mk 1 n l r []) = 1 + l.size + r.size
    rw [Fm.size, if_pos rfl, Fm.size.sizes]; omega
theorem size_kids {f : Fm} (hk : f.k ≠ 1) : f.size = 1 + Fm.size.sizes f.kids := by
  cases f with
  | mk k n l r ks =>
    have hk' : k ≠ 1 := hk
    show Fm.size (.mk k n l r ks) = 1 + Fm.size.sizes ks
    rw [Fm.size, if_neg hk']; omega
theorem depth_atom {f : Fm} (h : f.sane) (hk : f.k = 1) : f.depth = 1 + max f.l.depth f.r.depth := by
  have h3 := (Fm.sane_atom h hk).2.2
  cases f with
  | mk k n l r ks =>
    have h3' : ks = [] := h3
    have hk' : k = 1 := hk
    subst h3' hk'
    show Fm.depth (.mk 1 n l r []) = 1 + max l.depth r.depth
    have := depth_pos l
    rw [Fm.depth, if_pos rfl, Fm.depth.depths]; omega
theorem depths_pos : ∀ l : List Fm, 0 ≤ Fm.depth.depths l
  | [] => by rw [Fm.depth.depths]; decide
  | a :: r => by rw [Fm.depth.depths]; have := depths_pos r; omega
theorem depth_kids {f : Fm} (hk : f.k ≠ 1) : f.depth = 1 + Fm.depth.depths f.kids := by
  cases f with
  | mk k n l r ks =>
    have hk' : k ≠ 1 := hk
    show Fm.depth (.mk k n l r ks) = 1 + Fm.depth.depths ks
    have := depths_pos ks
    rw [Fm.depth, if_neg hk']; omega
theorem fdepth_pos (f : Fm) : 1 ≤ f.depth := by
  cases f with
  | mk k n l r ks => have := depths_pos ks; rw [Fm.depth]; omega
theorem depths_ge : ∀ {l : List Fm} {a : Fm}, a ∈ l → a.depth ≤ Fm.depth.depths l
  | b :: r, a, h => by
    rw [Fm.depth.depths]
    rcases List.mem_cons.1 h with rfl | h
    · omega
    · have := depths_ge h; omega
theorem short_depth {t : T} (h : Short t) : t.depth ≤ 1048577 := by
  have := (dm_ge (t.parts [])).2 h
  rwa [dm_parts] at this
abbrev fbox (f : Fm) (sl sr sk : Value) : Obj := .cells #[.int .i64 f.k, .string f.nm, .int .i64 f.l.v, .string f.l.fn, sl, .int .i64 f.r.v, .string f.r.fn, sr, sk] 27
structure SzI (w : World) (f : Fm) (sl sr sk : Value) (X : World) : Prop where
  bel : Below w.heap.size w X
  box : X.heap[w.heap.size]? = some (fbox f sl sr sk)
  l : ArgsAt X sl f.l.args
  r : ArgsAt X sr f.r.args
theorem SzI.keep {w : World} {f : Fm} {sl sr sk : Value} {X Y : World} (h : SzI w f sl sr sk X) (hb : Below X.heap.size X Y) : SzI w f sl sr sk Y :=
  ⟨h.bel.trans (hb.mono h.bel.size), (hb.block _ (Array.getElem?_eq_some_iff.1 h.box).1).trans h.box, h.l.keep hb (Nat.le_refl _), h.r.keep hb (Nat.le_refl _)⟩
theorem SzI.start {P : Nat → Prop} {w : World} {f : Fm} {sl sr sk : Value} (h : FmP P w f sl sr sk) : SzI w f sl sr sk (w.alloc (fbox f sl sr sk)) :=
  ⟨below_box w _, (MapKept.heap_alloc w _).1, (h.grow (below_box w _)).l.args, (h.grow (below_box w _)).r.args⟩
theorem fsize_atom {P : Nat → Prop} {f : Fm} (hs : f.sane) (hk : f.k = 1) {sl sr sk : Value} {w : World} (h : FmP P w f sl sr sk) :
    Calls Tryz.prog 21 #[fval f sl sr sk] w fun e w' => e = .returned (.int .i64 (wrap64 f.size)) ∧ Below w.heap.size w w' := by
  obtain ⟨la, lc, rfl, _, _⟩ := h.l.slice'
  obtain ⟨ra, rc, rfl, _, _⟩ := h.r.slice'
  obtain ⟨ka, kc', rfl, _, _⟩ := h.k.slice
  obtain ⟨s1, s2, -⟩ := Fm.sane_atom hs hk
  have HE := hidR (size_atom hs hk)
  have hI0 := SzI.start h
  have hl : ∀ X, SzI w f (.slice la f.l.args.length lc) (.slice ra f.r.args.length rc) (.slice ka f.kids.length kc') X → Calls Tryz.prog 50 #[.agg #[.int .i64 f.l.v, .string f.l.fn, .slice la f.l.args.length lc]] X fun e X' => e = .returned (.int .i64 (wrap64 f.l.size)) ∧ SzI w f (.slice la f.l.args.length lc) (.slice ra f.r.args.length rc) (.slice ka f.kids.length kc') X' := fun X hX => (tsize_any f.l _ X hX.l s1).mono fun _ _ ⟨he, hb⟩ => ⟨he, hX.keep hb⟩
  have hr : ∀ X, SzI w f (.slice la f.l.args.length lc) (.slice ra f.r.args.length rc) (.slice ka f.kids.length kc') X → Calls Tryz.prog 50 #[.agg #[.int .i64 f.r.v, .string f.r.fn, .slice ra f.r.args.length rc]] X fun e X' => e = .returned (.int .i64 (wrap64 f.r.size)) ∧ SzI w f (.slice la f.l.args.length lc) (.slice ra f.r.args.length rc) (.slice ka f.kids.length kc') X' := fun X hX => (tsize_any f.r _ X hX.r s2).mono fun _ _ ⟨he, hb⟩ => ⟨he, hX.keep hb⟩
  have hdr : ∀ X, SzI w f (.slice la f.l.args.length lc) (.slice ra f.r.args.length rc) (.slice ka f.kids.length kc') X → SzI w f (.slice la f.l.args.length lc) (.slice ra f.r.args.length rc) (.slice ka f.kids.length kc') X.drew := fun X hX => hX.keep (Below.refl _ X).drew
  have hC : ∀ X, SzI w f (.slice la f.l.args.length lc) (.slice ra f.r.args.length rc) (.slice ka f.kids.length kc') X → X.cell? ⟨w.heap.size, 2, none⟩ = some (.int .i64 f.l.v) ∧ X.cell? ⟨w.heap.size, 3, none⟩ = some (.string f.l.fn) ∧ X.cell? ⟨w.heap.size, 4, none⟩ = some (.slice la f.l.args.length lc) ∧ X.cell? ⟨w.heap.size, 5, none⟩ = some (.int .i64 f.r.v) ∧ X.cell? ⟨w.heap.size, 6, none⟩ = some (.string f.r.fn) ∧ X.cell? ⟨w.heap.size, 7, none⟩ = some (.slice ra f.r.args.length rc) := fun X hX =>
    ⟨cell_storeR (vs := [_, _, _, _, _, _, _, _, _]) hX.box rfl, cell_storeR (vs := [_, _, _, _, _, _, _, _, _]) hX.box rfl, cell_storeR (vs := [_, _, _, _, _, _, _, _, _]) hX.box rfl, cell_storeR (vs := [_, _, _, _, _, _, _, _, _]) hX.box rfl, cell_storeR (vs := [_, _, _, _, _, _, _, _, _]) hX.box rfl, cell_storeR (vs := [_, _, _, _, _, _, _, _, _]) hX.box rfl⟩
  have hz0 : (w.alloc (fbox f (.slice la f.l.args.length lc) (.slice ra f.r.args.length rc) (.slice ka f.kids.length kc'))).cell? ⟨w.heap.size, 0, none⟩ = some (.int .i64 1) := by
    rw [← hk]
    exact cell_storeR (vs := [_, _, _, _, _, _, _, _, _]) hI0.box rfl
  have hbl : Hid (∀ X, SzI w f (.slice la f.l.args.length lc) (.slice ra f.r.args.length rc) (.slice ka f.kids.length kc') X → Below w.heap.size w X) := fun X h => h.bel
  obtain ⟨S, hS⟩ : ∃ S, SzI w f (.slice la f.l.args.length lc) (.slice ra f.r.args.length rc) (.slice ka f.kids.length kc') = S := ⟨_, rfl⟩
  rw [hS] at hI0 hl hr hdr hC hbl
  obtain ⟨W0, hW0⟩ : ∃ X, w.alloc (fbox f (.slice la f.l.args.length lc) (.slice ra f.r.args.length rc) (.slice ka f.kids.length kc')) = X := ⟨_, rfl⟩
  obtain ⟨R, hR⟩ : ∃ R, w.heap.size = R := ⟨_, rfl⟩
  rw [hW0] at hI0 hz0
  rw [hR] at hz0 hC
  simp only [fbox, fval, hk] at hW0 ⊢
  clear hS h s1 s2 hs hk
  go_enter Tryz.func21, Tryz.ntmps21
  go_upto_region 1 with fail
  try simp only [hR]
  try rw [hW0]
  clear hW0
  have hSd := hdr _ hI0
  have HF : Hid (Below R w W0) := by rw [← hR]; exact hbl.out _ hI0
  obtain ⟨n2, n3, n4, n5, n6, n7⟩ := hC _ hSd
  go_wp2
  go_region_held3 (fun X => X.cell? ⟨R, 2, none⟩ = some (.int .i64 f.l.v) ∧ X.cell? ⟨R, 3, none⟩ = some (.string f.l.fn) ∧ X.cell? ⟨R, 4, none⟩ = some (.slice la f.l.args.length lc) ∧ X.cell? ⟨R, 5, none⟩ = some (.int .i64 f.r.v) ∧ X.cell? ⟨R, 6, none⟩ = some (.string f.r.fn) ∧ X.cell? ⟨R, 7, none⟩ = some (.slice ra f.r.args.length rc)) (first | exact ⟨n2, n3, n4, n5, n6, n7⟩ | exact K4 | exact K5) (first
    | (go_at_call 50; refine (hr _ HW4).mono ?_; rintro e W5 ⟨rfl, HW5⟩; have K5 := hC _ HW5)
    | (go_at_call 50; refine (hl _ hSd).mono ?_; rintro e W4 ⟨rfl, HW4⟩; have K4 := hC _ HW4))
  go_wp2
  go_ret
  refine ⟨ret_i64 ?_, hbl.out _ HW5⟩
  rw [HE.out, IntWalk.i64_left, IntWalk.i64_left]
  unfold wrap64; omega
theorem dep_wrap {a b : Int} (ha : 1 ≤ a) (ha' : a ≤ 1048577) (hb : 1 ≤ b) (hb' : b ≤ 1048577) : wrap64 (1 + max a b) = 1 + max a b := by unfold wrap64; omega
theorem fdepth_atom {P : Nat → Prop} {f : Fm} (hs : f.sane) (hk : f.k = 1) {sl sr sk : Value} {w : World} (h : FmP P w f sl sr sk) :
    Calls Tryz.prog 22 #[fval f sl sr sk] w fun e w' => e = .returned (.int .i64 (f.depth)) ∧ Below w.heap.size w w' := by
  obtain ⟨la, lc, rfl, _, _⟩ := h.l.slice'
  obtain ⟨ra, rc, rfl, _, _⟩ := h.r.slice'
  obtain ⟨ka, kc', rfl, _, _⟩ := h.k.slice
  obtain ⟨s1, s2, -⟩ := Fm.sane_atom hs hk
  have HD := hidR (And.intro (And.intro (depth_pos f.l) (short_depth s1)) (And.intro (depth_pos f.r) (short_depth s2)))
  have HE := hidR (depth_atom hs hk)
  have hI0 := SzI.start h
  have hl : ∀ X, SzI w f (.slice la f.l.args.length lc) (.slice ra f.r.args.length rc) (.slice ka f.kids.length kc') X → Calls Tryz.prog 51 #[.agg #[.int .i64 f.l.v, .string f.l.fn, .slice la f.l.args.length lc]] X fun e X' => e = .returned (.int .i64 (f.l.depth)) ∧ SzI w f (.slice la f.l.args.length lc) (.slice ra f.r.args.length rc) (.slice ka f.kids.length kc') X' := fun X hX => (tdepth_any f.l _ X hX.l s1).mono fun _ _ ⟨he, hb⟩ => ⟨he, hX.keep hb⟩
  have hr : ∀ X, SzI w f (.slice la f.l.args.length lc) (.slice ra f.r.args.length rc) (.slice ka f.kids.length kc') X → Calls Tryz.prog 51 #[.agg #[.int .i64 f.r.v, .string f.r.fn, .slice ra f.r.args.length rc]] X fun e X' => e = .returned (.int .i64 (f.r.depth)) ∧ SzI w f (.slice la f.l.args.length lc) (.slice ra f.r.args.length rc) (.slice ka f.kids.length kc') X' := fun X hX => (tdepth_any f.r _ X hX.r s2).mono fun _ _ ⟨he, hb⟩ => ⟨he, hX.keep hb⟩
  have hdr : ∀ X, SzI w f (.slice la f.l.args.length lc) (.slice ra f.r.args.length rc) (.slice ka f.kids.length kc') X → SzI w f (.slice la f.l.args.length lc) (.slice ra f.r.args.length rc) (.slice ka f.kids.length kc') X.drew := fun X hX => hX.keep (Below.refl _ X).drew
  have hC : ∀ X, SzI w f (.slice la f.l.args.length lc) (.slice ra f.r.args.length rc) (.slice ka f.kids.length kc') X → X.cell? ⟨w.heap.size, 2, none⟩ = some (.int .i64 f.l.v) ∧ X.cell? ⟨w.heap.size, 3, none⟩ = some (.string f.l.fn) ∧ X.cell? ⟨w.heap.size, 4, none⟩ = some (.slice la f.l.args.length lc) ∧ X.cell? ⟨w.heap.size, 5, none⟩ = some (.int .i64 f.r.v) ∧ X.cell? ⟨w.heap.size, 6, none⟩ = some (.string f.r.fn) ∧ X.cell? ⟨w.heap.size, 7, none⟩ = some (.slice ra f.r.args.length rc) := fun X hX =>
    ⟨cell_storeR (vs := [_, _, _, _, _, _, _, _, _]) hX.box rfl, cell_storeR (vs := [_, _, _, _, _, _, _, _, _]) hX.box rfl, cell_storeR (vs := [_, _, _, _, _, _, _, _, _]) hX.box rfl, cell_storeR (vs := [_, _, _, _, _, _, _, _, _]) hX.box rfl, cell_storeR (vs := [_, _, _, _, _, _, _, _, _]) hX.box rfl, cell_storeR (vs := [_, _, _, _, _, _, _, _, _]) hX.box rfl⟩
  have hz0 : (w.alloc (fbox f (.slice la f.l.args.length lc) (.slice ra f.r.args.length rc) (.slice ka f.kids.length kc'))).cell? ⟨w.heap.size, 0, none⟩ = some (.int .i64 1) := by
    rw [← hk]
    exact cell_storeR (vs := [_, _, _, _, _, _, _, _, _]) hI0.box rfl
  have hbl : Hid (∀ X, SzI w f (.slice la f.l.args.length lc) (.slice ra f.r.args.length rc) (.slice ka f.kids.length kc') X → Below w.heap.size w X) := fun X h => h.bel
  obtain ⟨S, hS⟩ : ∃ S, SzI w f (.slice la f.l.args.length lc) (.slice ra f.r.args.length rc) (.slice ka f.kids.length kc') = S := ⟨_, rfl⟩
  rw [hS] at hI0 hl hr hdr hC hbl
  obtain ⟨W0, hW0⟩ : ∃ X, w.alloc (fbox f (.slice la f.l.args.length lc) (.slice ra f.r.args.length rc) (.slice ka f.kids.length kc')) = X := ⟨_, rfl⟩
  obtain ⟨R, hR⟩ : ∃ R, w.heap.size = R := ⟨_, rfl⟩
  rw [hW0] at hI0 hz0
  rw [hR] at hz0 hC
  simp only [fbox, fval, hk] at hW0 ⊢
  clear hS h s1 s2 hs hk
  go_enter Tryz.func22, Tryz.ntmps22
  go_upto_region 1 with fail
  try simp only [hR]
  try rw [hW0]
  clear hW0
  have hSd := hdr _ hI0
  have HF : Hid (Below R w W0) := by rw [← hR]; exact hbl.out _ hI0
  obtain ⟨n2, n3, n4, n5, n6, n7⟩ := hC _ hSd
  go_wp2
  go_region_held3 (fun X => X.cell? ⟨R, 2, none⟩ = some (.int .i64 f.l.v) ∧ X.cell? ⟨R, 3, none⟩ = some (.string f.l.fn) ∧ X.cell? ⟨R, 4, none⟩ = some (.slice la f.l.args.length lc) ∧ X.cell? ⟨R, 5, none⟩ = some (.int .i64 f.r.v) ∧ X.cell? ⟨R, 6, none⟩ = some (.string f.r.fn) ∧ X.cell? ⟨R, 7, none⟩ = some (.slice ra f.r.args.length rc)) (first | exact ⟨n2, n3, n4, n5, n6, n7⟩ | exact K4 | exact K5) (first
    | (go_at_call 51; refine (hr _ HW4).mono ?_; rintro e W5 ⟨rfl, HW5⟩; have K5 := hC _ HW5)
    | (go_at_call 51; refine (hl _ hSd).mono ?_; rintro e W4 ⟨rfl, HW4⟩; have K4 := hC _ HW4))
  go_wp2
  go_ret
  refine ⟨ret_i64 ?_, hbl.out _ HW5⟩
  rw [HE.out]
  first
    | (rw [IntWalk.i64_left]; exact dep_wrap HD.out.1.1 HD.out.1.2 HD.out.2.1 HD.out.2.2)
    | exact dep_wrap HD.out.1.1 HD.out.1.2 HD.out.2.1 HD.out.2.2
theorem sizes_step {l : List Fm} {i : Nat} (h : i < l.length) : Fm.size.sizes (l.drop i) = l[i].size + Fm.size.sizes (l.drop (i + 1)) := by rw [List.drop_eq_getElem_cons h, Fm.size.sizes]
theorem depths_step {l : List Fm} {i : Nat} (h : i < l.length) : Fm.depth.depths (l.drop i) = max l[i].depth (Fm.depth.depths (l.drop (i + 1))) := by rw [List.drop_eq_getElem_cons h, Fm.depth.depths]
theorem fsize_any (f : Fm) : f.sane → ∀ (P : Nat → Prop) (sl sr sk : Value) (w : World), FmP P w f sl sr sk → Calls Tryz.prog 21 #[fval f sl sr sk] w fun e w' => e = .returned (.int .i64 (wrap64 f.size)) ∧ Below w.heap.size w w' := by
  refine Fm.ind (P := fun f => f.sane → ∀ (P : Nat → Prop) (sl sr sk : Value) (w : World), FmP P w f sl sr sk → Calls Tryz.prog 21 #[fval f sl sr sk] w fun e w' => e = .returned (.int .i64 (wrap64 f.size)) ∧ Below w.heap.size w w') (fun f ih => ?_) f
  intro hs P sl sr sk w h
  by_cases hk : f.k = 1
  · exact fsize_atom hs hk h
  have hb0 := below_box w (fbox f sl sr sk)
  have h0 := h.grow hb0
  obtain ⟨W0, hW0⟩ : ∃ X, w.alloc (fbox f sl sr sk) = X := ⟨_, rfl⟩
  have hz0 := (MapKept.heap_alloc w (fbox f sl sr sk)).1
  obtain ⟨R, hR⟩ : ∃ R, w.heap.size = R := ⟨_, rfl⟩
  rw [hW0] at h0 hb0 hz0
  obtain ⟨n, hn⟩ : ∃ n, f.kids.length = n := ⟨_, rfl⟩
  have HS := hidR h0.k
  have HB := hidR hb0
  have HG : Hid (∀ a ∈ f.kids, ∀ (sl sr sk : Value) (X : World), FmP P X a sl sr sk → Calls Tryz.prog 21 #[fval a sl sr sk] X fun e w' => e = .returned (.int .i64 (wrap64 a.size)) ∧ Below X.heap.size X w') := fun a ha sl sr sk X hX => ih a ha (Fm.sane_kids hs a ha) P sl sr sk X hX
  have HE := hidR (size_kids hk)
  obtain ⟨la, lc, rfl, _, _⟩ := h0.l.slice'
  obtain ⟨ra, rc, rfl, _, _⟩ := h0.r.slice'
  obtain ⟨ka, kc', rfl, hkc, hkm⟩ := h0.k.slice
  have hkm' : kc' ≤ 9223372036854775807 := by unfold maxLen at hkm; omega
  rw [hn] at HS hkc hW0 ⊢
  have hnl : n ≤ 9223372036854775807 := by omega
  rw [hR] at hz0
  have z0 := cell_storeR (vs := [_, _, _, _, _, _, _, _, _]) (i := 0) hz0 rfl
  have z8 : W0.cell? ⟨R, 8, none⟩ = some (.slice ka n kc') := by rw [← hn]; exact cell_storeR (vs := [_, _, _, _, _, _, _, _, _]) (i := 8) hz0 rfl
  clear h h0 hb0 hz0 ih hs hkm
  go_enter Tryz.func21, Tryz.ntmps21
  go_upto_region 1 with fail
  try simp only [hR]
  try rw [hW0]
  clear hW0
  have hkb : (f.k == 1) = false := by simpa using hk
  go_upto_region 3 with fail
  try simp only [hkb]
  go_wp2
  go_loopw [3, 20] (fun vs vi wr => ∃ (i : Nat) (x : Int), vi = .int .i64 i ∧ vs = .int .i64 (wrap64 x) ∧ i ≤ n ∧ Hid (Below W0.heap.size W0 wr ∧ x + Fm.size.sizes (f.kids.drop i) = 1 + Fm.size.sizes f.kids)) (fun _ vi _ => n - (intOf vi).toNat)
  case atStart => exact ⟨0, 1, rfl, congrArg _ (show (1 : Int) = wrap64 1 by unfold wrap64; decide), Nat.zero_le _, Below.refl _ _, rfl⟩
  case round =>
    obtain ⟨i, x, rfl, rfl, hi, HI⟩ := hrel
    by_cases hlt : i < n
    · have hil : i < f.kids.length := by omega
      have hsr := HS.out.grow HI.out.1
      rw [← hn] at hsr
      obtain ⟨b, o, sl, sr, sk, rfl, _, hlt2, ⟨y0, y1, ⟨y2, y3, y4⟩, ⟨y5, y6, y7⟩, y8⟩, hss⟩ := hsr.nth hil
      obtain ⟨a1, c1, rfl, _, _⟩ := hss.l.slice'
      obtain ⟨a2, c2, rfl, _, _⟩ := hss.r.slice'
      obtain ⟨a3, c3, rfl, _, _⟩ := hss.k.slice
      have hb7 := below_box wr (fbox f.kids[i] (.slice a1 f.kids[i].l.args.length c1) (.slice a2 f.kids[i].r.args.length c2) (.slice a3 f.kids[i].kids.length c3))
      have hc := HG.out f.kids[i] (List.getElem_mem hil) _ _ _ _ (hss.grow hb7)
      have HT := hidR (sizes_step hil)
      have H7 := hidR hb7
      generalize f.kids[i] = t at y0 y1 y2 y3 y4 y5 y6 y7 y8 hc HT H7
      clear hss hsr hlt2 hb7
      go_wp2_with fail
      refine hc.mono ?_
      rintro e W2 ⟨rfl, h2⟩
      have HN : Hid (Below W0.heap.size W0 W2 ∧ (x + t.size) + Fm.size.sizes (f.kids.drop (i + 1)) = 1 + Fm.size.sizes f.kids) := ⟨HI.out.1.trans ((H7.out.trans (h2.mono H7.out.size)).mono HI.out.1.size), by have := HI.out.2; rw [HT.out] at this; omega⟩
      clear hc h2
      go_wp2
      go_roundw
      case rel => exact ⟨i + 1, x + t.size, by go_num, by first | rfl | (rw [IntWalk.i64_left, wrap64_add]) | (rw [wrap64_add]), by omega, HN.out⟩
      case measure => simp [intOf]; omega
    · have hin : i = n := by omega
      subst hin
      go_wp2
      go_ret
      refine ⟨ret_i64 ?_, HB.out.trans (HI.out.1.mono HB.out.size)⟩
      have := HI.out.2
      rw [← hn, List.drop_length] at this
      rw [HE.out, ← this]
      show _ = wrap64 (x + 0)
      rw [Int.add_zero]
theorem fdepth_any (f : Fm) : f.sane → f.depth ≤ 4611686018427387904 → ∀ (P : Nat → Prop) (sl sr sk : Value) (w : World), FmP P w f sl sr sk → Calls Tryz.prog 22 #[fval f sl sr sk] w fun e w' => e = .returned (.int .i64 f.depth) ∧ Below w.heap.size w w' := by
  refine Fm.ind (P := fun f => f.sane → f.depth ≤ 4611686018427387904 → ∀ (P : Nat → Prop) (sl sr sk : Value) (w : World), FmP P w f sl sr sk → Calls Tryz.prog 22 #[fval f sl sr sk] w fun e w' => e = .returned (.int .i64 f.depth) ∧ Below w.heap.size w w') (fun f ih => ?_) f
  intro hs hdp P sl sr sk w h
  by_cases hk : f.k = 1
  · exact fdepth_atom hs hk h
  have hb0 := below_box w (fbox f sl sr sk)
  have h0 := h.grow hb0
  obtain ⟨W0, hW0⟩ : ∃ X, w.alloc (fbox f sl sr sk) = X := ⟨_, rfl⟩
  have hz0 := (MapKept.heap_alloc w (fbox f sl sr sk)).1
  obtain ⟨R, hR⟩ : ∃ R, w.heap.size = R := ⟨_, rfl⟩
  rw [hW0] at h0 hb0 hz0
  obtain ⟨n, hn⟩ : ∃ n, f.kids.length = n := ⟨_, rfl⟩
  have HS := hidR h0.k
  have HB := hidR hb0
  have HE := hidR (And.intro (depth_kids hk) hdp)
  have hall : ∀ a ∈ f.kids, a.depth ≤ 4611686018427387904 := fun a ha => by have h1 := depths_ge ha; have h2 := depth_kids hk; omega
  have HG : Hid (∀ a ∈ f.kids, ∀ (sl sr sk : Value) (X : World), FmP P X a sl sr sk → Calls Tryz.prog 22 #[fval a sl sr sk] X fun e w' => e = .returned (.int .i64 a.depth) ∧ Below X.heap.size X w') := fun a ha sl sr sk X hX => ih a ha (Fm.sane_kids hs a ha) (hall a ha) P sl sr sk X hX
  obtain ⟨la, lc, rfl, _, _⟩ := h0.l.slice'
  obtain ⟨ra, rc, rfl, _, _⟩ := h0.r.slice'
  obtain ⟨ka, kc', rfl, hkc, hkm⟩ := h0.k.slice
  have hkm' : kc' ≤ 9223372036854775807 := by unfold maxLen at hkm; omega
  rw [hn] at HS hkc hW0 ⊢
  have hnl : n ≤ 9223372036854775807 := by omega
  rw [hR] at hz0
  have z0 := cell_storeR (vs := [_, _, _, _, _, _, _, _, _]) (i := 0) hz0 rfl
  have z8 : W0.cell? ⟨R, 8, none⟩ = some (.slice ka n kc') := by rw [← hn]; exact cell_storeR (vs := [_, _, _, _, _, _, _, _, _]) (i := 8) hz0 rfl
  clear h h0 hb0 hz0 ih hs hkm hall hdp
  go_enter Tryz.func22, Tryz.ntmps22
  go_upto_region 1 with fail
  try simp only [hR]
  try rw [hW0]
  clear hW0
  have hkb : (f.k == 1) = false := by simpa using hk
  go_upto_region 3 with fail
  try simp only [hkb]
  go_wp2
  go_loopw [3, 20] (fun vs vi wr => ∃ (i : Nat) (x : Int), vi = .int .i64 i ∧ vs = .int .i64 x ∧ i ≤ n ∧ Hid (Below W0.heap.size W0 wr ∧ max x (Fm.depth.depths (f.kids.drop i)) = Fm.depth.depths f.kids ∧ 0 ≤ x)) (fun _ vi _ => n - (intOf vi).toNat)
  case atStart => exact ⟨0, 0, rfl, rfl, Nat.zero_le _, Below.refl _ _, by rw [List.drop_zero]; have := depths_pos f.kids; omega, Int.le_refl _⟩
  case round =>
    obtain ⟨i, x, rfl, rfl, hi, HI⟩ := hrel
    by_cases hlt : i < n
    · have hil : i < f.kids.length := by omega
      have hsr := HS.out.grow HI.out.1
      rw [← hn] at hsr
      obtain ⟨b, o, sl, sr, sk, rfl, _, hlt2, ⟨y0, y1, ⟨y2, y3, y4⟩, ⟨y5, y6, y7⟩, y8⟩, hss⟩ := hsr.nth hil
      obtain ⟨a1, c1, rfl, _, _⟩ := hss.l.slice'
      obtain ⟨a2, c2, rfl, _, _⟩ := hss.r.slice'
      obtain ⟨a3, c3, rfl, _, _⟩ := hss.k.slice
      have hb7 := below_box wr (fbox f.kids[i] (.slice a1 f.kids[i].l.args.length c1) (.slice a2 f.kids[i].r.args.length c2) (.slice a3 f.kids[i].kids.length c3))
      have hc := HG.out f.kids[i] (List.getElem_mem hil) _ _ _ _ (hss.grow hb7)
      have HT := hidR (depths_step hil)
      have H7 := hidR hb7
      generalize f.kids[i] = t at y0 y1 y2 y3 y4 y5 y6 y7 y8 hc HT H7
      clear hss hsr hlt2 hb7
      go_wp2_with fail
      refine hc.mono ?_
      rintro e W2 ⟨rfl, h2⟩
      have HN : Hid (Below W0.heap.size W0 W2 ∧ max (max x t.depth) (Fm.depth.depths (f.kids.drop (i + 1))) = Fm.depth.depths f.kids ∧ 0 ≤ max x t.depth) := ⟨HI.out.1.trans ((H7.out.trans (h2.mono H7.out.size)).mono HI.out.1.size), by have := HI.out.2.1; rw [HT.out] at this; omega, by have := HI.out.2.2; omega⟩
      obtain ⟨td, htd⟩ : ∃ y, t.depth = y := ⟨_, rfl⟩
      rw [htd] at HN ⊢
      clear hc h2
      go_wp2
      go_roundw
      case rel => exact ⟨i + 1, max x td, by go_num, by first | rfl | (congr 1; omega) | (refine congrArg _ ?_; split <;> omega), by omega, HN.out⟩
      case measure => simp [intOf]; omega
    · have hin : i = n := by omega
      subst hin
      have HX : Hid (f.depth = 1 + x ∧ f.depth ≤ 4611686018427387904 ∧ 0 ≤ x) := by
        have := HI.out.2.1
        rw [← hn, List.drop_length, Fm.depth.depths] at this
        have h0 := HI.out.2.2
        exact ⟨by rw [HE.out.1]; omega, HE.out.2, h0⟩
      go_wp2
      go_ret
      refine ⟨ret_i64 ?_, HB.out.trans (HI.out.1.mono HB.out.size)⟩
      have h1 := HX.out
      rw [h1.1]
      first
        | (rw [IntWalk.i64_left]; unfold wrap64; omega)
        | (unfold wrap64; omega)
