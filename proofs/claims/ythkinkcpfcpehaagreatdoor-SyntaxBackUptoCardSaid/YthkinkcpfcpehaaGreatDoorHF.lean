import Derived.Test.YthkinkcpfcpehaaGreatDoorHD
namespace Go.Proofs.YthkinkcpfcpehaaGreatDoor
set_option maxRecDepth 100000
set_option maxHeartbeats 16000000
open Go.RowKit
/-- The shape, all through. -/
noncomputable def shB : Fm → Bool
  | .mk k n l r ks => decide ((ks.length : Int) = kidsN k) && (nameB (.mk k n l r ks) && (termsB (.mk k n l r ks) && shs ks))
where shs : List Fm → Bool
  | [] => true
  | a :: r => shB a && shs r
theorem shs_all (l : List Fm) : l.all shB = shB.shs l := by
  induction l with
  | nil => rfl
  | cons a r ih => rw [List.all_cons, ih, shB.shs]
theorem shB_eq (f : Fm) : shB f = (decide ((f.kids.length : Int) = kidsN f.k) && (nameB f && (termsB f && f.kids.all shB))) := by cases f; rw [shs_all, shB]; rfl
theorem shaped_any (f : Fm) : f.nsm → ∀ (P : Nat → Prop) (sl sr sk : Value) (w : World), FmP P w f sl sr sk → Calls Tryz.prog 41 #[fval f sl sr sk] w fun e w' => e = .returned (.bool (shB f)) ∧ Below w.heap.size w w' := by
  refine Fm.ind (P := fun f => f.nsm → ∀ (P : Nat → Prop) (sl sr sk : Value) (w : World), FmP P w f sl sr sk → Calls Tryz.prog 41 #[fval f sl sr sk] w fun e w' => e = .returned (.bool (shB f)) ∧ Below w.heap.size w w') (fun f ih => ?_) f
  intro hn P sl sr sk w h
  obtain ⟨la, lc, rfl, _, _⟩ := h.l.slice'
  obtain ⟨ra, rc, rfl, _, _⟩ := h.r.slice'
  obtain ⟨ka, kc, rfl, _, _⟩ := h.k.slice
  have hI0 := SzI.start h
  have HG : Hid (∀ X, Below w.heap.size w X → FmP P X f (.slice la f.l.args.length lc) (.slice ra f.r.args.length rc) (.slice ka f.kids.length kc)) := fun X hX => h.grow hX
  have HQ : Hid (∀ X, Below w.heap.size w X → Calls Tryz.prog 62 #[.slice ka f.kids.length kc, .func (.func 41) #[] #[]] X fun e X' => e = .returned (.bool (f.kids.all shB)) ∧ Below X.heap.size X X') := fun X hX => gall_any (P := P) (p := shB) (fun a ha sl sr sk W _ hs => ih a ha (Fm.nsm_kids hn a ha) P sl sr sk W hs) (h.grow hX).k
  obtain ⟨n, hnn⟩ : ∃ n, f.kids.length = n := ⟨_, rfl⟩
  have HE := hidR (shB_eq f)
  rw [hnn] at hI0 HG HQ HE ⊢
  have hName : Hid (∀ X, SzI w f (.slice la f.l.args.length lc) (.slice ra f.r.args.length rc) (.slice ka n kc) X → Calls Tryz.prog 79 #[fval f (.slice la f.l.args.length lc) (.slice ra f.r.args.length rc) (.slice ka n kc)] X fun e X' => e = .returned (.bool (nameB f)) ∧ SzI w f (.slice la f.l.args.length lc) (.slice ra f.r.args.length rc) (.slice ka n kc) X') := fun X hX => (shapedName_any (Fm.nsm_nm hn) (HG.out X hX.bel)).mono fun _ _ ⟨he, hb⟩ => ⟨he, hX.keep hb⟩
  have hTerm : Hid (∀ X, SzI w f (.slice la f.l.args.length lc) (.slice ra f.r.args.length rc) (.slice ka n kc) X → Calls Tryz.prog 80 #[fval f (.slice la f.l.args.length lc) (.slice ra f.r.args.length rc) (.slice ka n kc)] X fun e X' => e = .returned (.bool (termsB f)) ∧ SzI w f (.slice la f.l.args.length lc) (.slice ra f.r.args.length rc) (.slice ka n kc) X') := fun X hX => (shapedTerms_any hn (HG.out X hX.bel)).mono fun _ _ ⟨he, hb⟩ => ⟨he, hX.keep hb⟩
  have hAll : Hid (∀ X, SzI w f (.slice la f.l.args.length lc) (.slice ra f.r.args.length rc) (.slice ka n kc) X → Calls Tryz.prog 62 #[.slice ka n kc, .func (.func 41) #[] #[]] X fun e X' => e = .returned (.bool (f.kids.all shB)) ∧ SzI w f (.slice la f.l.args.length lc) (.slice ra f.r.args.length rc) (.slice ka n kc) X') := fun X hX => (HQ.out X hX.bel).mono fun _ _ ⟨he, hb⟩ => ⟨he, hX.keep hb⟩
  have hdr : Hid (∀ X, SzI w f (.slice la f.l.args.length lc) (.slice ra f.r.args.length rc) (.slice ka n kc) X → SzI w f (.slice la f.l.args.length lc) (.slice ra f.r.args.length rc) (.slice ka n kc) X.drew) := fun X hX => hX.keep (Below.refl _ X).drew
  have hC : ∀ X, SzI w f (.slice la f.l.args.length lc) (.slice ra f.r.args.length rc) (.slice ka n kc) X → X.cell? ⟨w.heap.size, 0, none⟩ = some (.int .i64 f.k) ∧ X.cell? ⟨w.heap.size, 1, none⟩ = some (.string f.nm) ∧ X.cell? ⟨w.heap.size, 2, none⟩ = some (.int .i64 f.l.v) ∧ X.cell? ⟨w.heap.size, 3, none⟩ = some (.string f.l.fn) ∧ X.cell? ⟨w.heap.size, 4, none⟩ = some (.slice la f.l.args.length lc) ∧ X.cell? ⟨w.heap.size, 5, none⟩ = some (.int .i64 f.r.v) ∧ X.cell? ⟨w.heap.size, 6, none⟩ = some (.string f.r.fn) ∧ X.cell? ⟨w.heap.size, 7, none⟩ = some (.slice ra f.r.args.length rc) ∧ X.cell? ⟨w.heap.size, 8, none⟩ = some (.slice ka n kc) := fun X hX => (f_cells hX.box).1
  have hbl : Hid (∀ X, SzI w f (.slice la f.l.args.length lc) (.slice ra f.r.args.length rc) (.slice ka n kc) X → Below w.heap.size w X) := fun X h => h.bel
  obtain ⟨S, hS⟩ : ∃ S, SzI w f (.slice la f.l.args.length lc) (.slice ra f.r.args.length rc) (.slice ka n kc) = S := ⟨_, rfl⟩
  rw [hS] at hI0 hName hTerm hAll hdr hC hbl
  obtain ⟨W0, hW0⟩ : ∃ X, w.alloc (fbox f (.slice la f.l.args.length lc) (.slice ra f.r.args.length rc) (.slice ka n kc)) = X := ⟨_, rfl⟩
  obtain ⟨R, hR⟩ : ∃ R, w.heap.size = R := ⟨_, rfl⟩
  rw [hW0] at hI0
  rw [hR] at hC
  have HW0 := hidR hW0
  obtain ⟨b1, hb1⟩ : ∃ b, nameB f = b := ⟨_, rfl⟩
  obtain ⟨b2, hb2⟩ : ∃ b, termsB f = b := ⟨_, rfl⟩
  obtain ⟨b3, hb3⟩ : ∃ b, f.kids.all shB = b := ⟨_, rfl⟩
  rw [hb1, hb2, hb3] at HE
  rw [hb1] at hName
  rw [hb2] at hTerm
  rw [hb3] at hAll
  have hSd := hdr.out _ hI0
  have K0 := hC _ hI0
  have K1 := hC _ hSd
  have hkd := fun W => kidsOf_any f.k W
  obtain ⟨q, hq⟩ : ∃ q, kidsN f.k = q := ⟨_, rfl⟩
  rw [hq] at HE hkd
  clear hS h hn hW0 HQ ih hnn hb1 hb2 hb3 HG hq
  by_cases hl : (n : Int) = q
  case neg =>
    have hlb : ((n : Int) == q) = false := by simpa using hl
    have HF : Hid (shB f = false) := by show _ = _; rw [HE.out, decide_eq_false hl]; rfl
    clear hl HE hName hTerm hAll
    go_enter Tryz.func41, Tryz.ntmps41
    go_upto_region 1 with fail
    try simp only [hR]
    rw [show _ = W0 from HW0.out]
    refine wp_region_held_drew (S := fun X => X.cell? ⟨R, 0, none⟩ = some (.int .i64 f.k) ∧ X.cell? ⟨R, 1, none⟩ = some (.string f.nm) ∧ X.cell? ⟨R, 2, none⟩ = some (.int .i64 f.l.v) ∧ X.cell? ⟨R, 3, none⟩ = some (.string f.l.fn) ∧ X.cell? ⟨R, 4, none⟩ = some (.slice la f.l.args.length lc) ∧ X.cell? ⟨R, 5, none⟩ = some (.int .i64 f.r.v) ∧ X.cell? ⟨R, 6, none⟩ = some (.string f.r.fn) ∧ X.cell? ⟨R, 7, none⟩ = some (.slice ra f.r.args.length rc) ∧ X.cell? ⟨R, 8, none⟩ = some (.slice ka n kc)) (by kernel_rfl) K0 (fun hHeld => ?_)
    refine Lx.take_mk 0 (.pointer (some ⟨R, 8, none⟩)) rfl (by kernel_rfl) (by kernel_rfl) (by kernel_rfl) (fun _ _ _ h => h) (Or.inl ⟨by rfl, ?_⟩) (by assumption) ?_
    · intro w hSw; obtain ⟨n0, n1, n2, n3, n4, n5, n6, n7, n8⟩ := hSw; (try dsimp only at hSw); go_simp
    try simp only [Act.put, List.setIfInBounds_toArray, List.set_cons_zero, List.set_cons_succ]
    refine Lx.take_mk 1 (.slice ka n kc) rfl (by kernel_rfl) (by kernel_rfl) (by kernel_rfl) (fun _ _ _ h => h) (Or.inl ⟨by rfl, ?_⟩) (by assumption) ?_
    · intro w hSw; obtain ⟨n0, n1, n2, n3, n4, n5, n6, n7, n8⟩ := hSw; (try dsimp only at hSw); go_simp
    try simp only [Act.put, List.setIfInBounds_toArray, List.set_cons_zero, List.set_cons_succ]
    refine Lx.take_mk 2 (.int .i64 n) rfl (by kernel_rfl) (by kernel_rfl) (by kernel_rfl) (fun _ _ _ h => h) (Or.inl ⟨by rfl, ?_⟩) (by assumption) ?_
    · intro w hSw; obtain ⟨n0, n1, n2, n3, n4, n5, n6, n7, n8⟩ := hSw; (try dsimp only at hSw); go_simp
    try simp only [Act.put, List.setIfInBounds_toArray, List.set_cons_zero, List.set_cons_succ]
    refine Lx.take_mk 3 (.pointer (some ⟨R, 0, none⟩)) rfl (by kernel_rfl) (by kernel_rfl) (by kernel_rfl) (fun _ _ _ h => h) (Or.inl ⟨by rfl, ?_⟩) (by assumption) ?_
    · intro w hSw; obtain ⟨n0, n1, n2, n3, n4, n5, n6, n7, n8⟩ := hSw; (try dsimp only at hSw); go_simp
    try simp only [Act.put, List.setIfInBounds_toArray, List.set_cons_zero, List.set_cons_succ]
    refine Lx.take_mk 4 (.int .i64 f.k) rfl (by kernel_rfl) (by kernel_rfl) (by kernel_rfl) (fun _ _ _ h => h) (Or.inl ⟨by rfl, ?_⟩) (by assumption) ?_
    · intro w hSw; obtain ⟨n0, n1, n2, n3, n4, n5, n6, n7, n8⟩ := hSw; (try dsimp only at hSw); go_simp
    try simp only [Act.put, List.setIfInBounds_toArray, List.set_cons_zero, List.set_cons_succ]
    refine wpAnyH_ready (rs := [5]) (by kernel_rfl) (by simp) ?_
    refine AllReadyH.cons rfl (fun K hK => ?_) AllReadyH.nil
    have hc := hkd W0.drew
    go_simp
    refine hc.mono ?_
    rintro e W3 ⟨rfl, rfl⟩
    refine hK.out _ _ K1 (fun hHeld => ?_)
    clear hK K hc
    try simp only [Act.put, List.getElem_toArray, List.getElem_cons_succ, List.getElem_cons_zero, List.setIfInBounds_toArray, List.set_cons_zero, List.set_cons_succ]
    refine Lx.take_mk 6 (.bool false) rfl (by kernel_rfl) (by kernel_rfl) (by kernel_rfl) (fun _ _ _ h => h) (Or.inl ⟨by rfl, ?_⟩) (by assumption) ?_
    · intro w hSw; obtain ⟨n0, n1, n2, n3, n4, n5, n6, n7, n8⟩ := hSw; (try dsimp only at hSw); first | (go_simp; done) | (go_simp; rw [hlb]) | (go_simp; simp [hlb])
    try simp only [Act.put, List.setIfInBounds_toArray, List.set_cons_zero, List.set_cons_succ]
    refine Lx.take_mk 7 (.bool false) rfl (by kernel_rfl) (by kernel_rfl) (by kernel_rfl) (fun _ _ _ h => h) (Or.inl ⟨by rfl, ?_⟩) (by assumption) ?_
    · intro w hSw; obtain ⟨n0, n1, n2, n3, n4, n5, n6, n7, n8⟩ := hSw; (try dsimp only at hSw); go_simp
    try simp only [Act.put, List.setIfInBounds_toArray, List.set_cons_zero, List.set_cons_succ]
    refine Lx.take_mk 8 undef rfl (by kernel_rfl) (by kernel_rfl) (by kernel_rfl) (fun _ _ _ h => h) (Or.inr ⟨by rfl, rfl⟩) (by assumption) ?_
    try simp only [Act.put, List.setIfInBounds_toArray, List.set_cons_zero, List.set_cons_succ]
    refine Lx.take_mk 9 undef rfl (by kernel_rfl) (by kernel_rfl) (by kernel_rfl) (fun _ _ _ h => h) (Or.inr ⟨by rfl, rfl⟩) (by assumption) ?_
    try simp only [Act.put, List.setIfInBounds_toArray, List.set_cons_zero, List.set_cons_succ]
    refine Lx.take_mk 10 (.bool false) rfl (by kernel_rfl) (by kernel_rfl) (by kernel_rfl) (fun _ _ _ h => h) (Or.inl ⟨by rfl, ?_⟩) (by assumption) ?_
    · intro w hSw; obtain ⟨n0, n1, n2, n3, n4, n5, n6, n7, n8⟩ := hSw; (try dsimp only at hSw); go_simp
    try simp only [Act.put, List.setIfInBounds_toArray, List.set_cons_zero, List.set_cons_succ]
    refine Lx.take_mk 11 (.bool false) rfl (by kernel_rfl) (by kernel_rfl) (by kernel_rfl) (fun _ _ _ h => h) (Or.inl ⟨by rfl, ?_⟩) (by assumption) ?_
    · intro w hSw; obtain ⟨n0, n1, n2, n3, n4, n5, n6, n7, n8⟩ := hSw; (try dsimp only at hSw); go_simp
    try simp only [Act.put, List.setIfInBounds_toArray, List.set_cons_zero, List.set_cons_succ]
    refine Lx.take_mk 12 undef rfl (by kernel_rfl) (by kernel_rfl) (by kernel_rfl) (fun _ _ _ h => h) (Or.inr ⟨by rfl, rfl⟩) (by assumption) ?_
    try simp only [Act.put, List.setIfInBounds_toArray, List.set_cons_zero, List.set_cons_succ]
    refine Lx.take_mk 13 undef rfl (by kernel_rfl) (by kernel_rfl) (by kernel_rfl) (fun _ _ _ h => h) (Or.inr ⟨by rfl, rfl⟩) (by assumption) ?_
    try simp only [Act.put, List.setIfInBounds_toArray, List.set_cons_zero, List.set_cons_succ]
    refine Lx.take_mk 14 (.bool false) rfl (by kernel_rfl) (by kernel_rfl) (by kernel_rfl) (fun _ _ _ h => h) (Or.inl ⟨by rfl, ?_⟩) (by assumption) ?_
    · intro w hSw; obtain ⟨n0, n1, n2, n3, n4, n5, n6, n7, n8⟩ := hSw; (try dsimp only at hSw); go_simp
    try simp only [Act.put, List.setIfInBounds_toArray, List.set_cons_zero, List.set_cons_succ]
    refine Lx.take_mk 15 (.bool false) rfl (by kernel_rfl) (by kernel_rfl) (by kernel_rfl) (fun _ _ _ h => h) (Or.inl ⟨by rfl, ?_⟩) (by assumption) ?_
    · intro w hSw; obtain ⟨n0, n1, n2, n3, n4, n5, n6, n7, n8⟩ := hSw; (try dsimp only at hSw); go_simp
    try simp only [Act.put, List.setIfInBounds_toArray, List.set_cons_zero, List.set_cons_succ]
    refine Lx.take_mk 16 undef rfl (by kernel_rfl) (by kernel_rfl) (by kernel_rfl) (fun _ _ _ h => h) (Or.inr ⟨by rfl, rfl⟩) (by assumption) ?_
    try simp only [Act.put, List.setIfInBounds_toArray, List.set_cons_zero, List.set_cons_succ]
    refine Lx.take_mk 17 undef rfl (by kernel_rfl) (by kernel_rfl) (by kernel_rfl) (fun _ _ _ h => h) (Or.inr ⟨by rfl, rfl⟩) (by assumption) ?_
    try simp only [Act.put, List.setIfInBounds_toArray, List.set_cons_zero, List.set_cons_succ]
    refine Lx.take_mk 18 undef rfl (by kernel_rfl) (by kernel_rfl) (by kernel_rfl) (fun _ _ _ h => h) (Or.inr ⟨by rfl, rfl⟩) (by assumption) ?_
    try simp only [Act.put, List.setIfInBounds_toArray, List.set_cons_zero, List.set_cons_succ]
    refine Lx.take_mk 19 (.bool false) rfl (by kernel_rfl) (by kernel_rfl) (by kernel_rfl) (fun _ _ _ h => h) (Or.inl ⟨by rfl, ?_⟩) (by assumption) ?_
    · intro w hSw; obtain ⟨n0, n1, n2, n3, n4, n5, n6, n7, n8⟩ := hSw; (try dsimp only at hSw); go_simp
    try simp only [Act.put, List.setIfInBounds_toArray, List.set_cons_zero, List.set_cons_succ]
    refine Lx.take_mk 20 (.bool false) rfl (by kernel_rfl) (by kernel_rfl) (by kernel_rfl) (fun _ _ _ h => h) (Or.inl ⟨by rfl, ?_⟩) (by assumption) ?_
    · intro w hSw; obtain ⟨n0, n1, n2, n3, n4, n5, n6, n7, n8⟩ := hSw; (try dsimp only at hSw); go_simp
    try simp only [Act.put, List.setIfInBounds_toArray, List.set_cons_zero, List.set_cons_succ]
    refine wpAnyH_done (by kernel_rfl) ?_ _
    go_wp2
    go_ret
    exact ⟨ret_bool HF.out.symm, hbl.out _ hSd⟩
  case pos =>
  have hlb : ((n : Int) == q) = true := by simpa using hl
  have HF : Hid (shB f = (b1 && (b2 && b3))) := by show _ = _; rw [HE.out, decide_eq_true hl]; rfl
  clear hl HE
  cases b1 with
  | false =>
    go_enter Tryz.func41, Tryz.ntmps41
    go_upto_region 1 with fail
    try simp only [hR]
    rw [show _ = W0 from HW0.out]
    refine wp_region_held_drew (S := fun X => X.cell? ⟨R, 0, none⟩ = some (.int .i64 f.k) ∧ X.cell? ⟨R, 1, none⟩ = some (.string f.nm) ∧ X.cell? ⟨R, 2, none⟩ = some (.int .i64 f.l.v) ∧ X.cell? ⟨R, 3, none⟩ = some (.string f.l.fn) ∧ X.cell? ⟨R, 4, none⟩ = some (.slice la f.l.args.length lc) ∧ X.cell? ⟨R, 5, none⟩ = some (.int .i64 f.r.v) ∧ X.cell? ⟨R, 6, none⟩ = some (.string f.r.fn) ∧ X.cell? ⟨R, 7, none⟩ = some (.slice ra f.r.args.length rc) ∧ X.cell? ⟨R, 8, none⟩ = some (.slice ka n kc)) (by kernel_rfl) K0 (fun hHeld => ?_)
    refine Lx.take_mk 0 (.pointer (some ⟨R, 8, none⟩)) rfl (by kernel_rfl) (by kernel_rfl) (by kernel_rfl) (fun _ _ _ h => h) (Or.inl ⟨by rfl, ?_⟩) (by assumption) ?_
    · intro w hSw; obtain ⟨n0, n1, n2, n3, n4, n5, n6, n7, n8⟩ := hSw; (try dsimp only at hSw); go_simp
    try simp only [Act.put, List.setIfInBounds_toArray, List.set_cons_zero, List.set_cons_succ]
    refine Lx.take_mk 1 (.slice ka n kc) rfl (by kernel_rfl) (by kernel_rfl) (by kernel_rfl) (fun _ _ _ h => h) (Or.inl ⟨by rfl, ?_⟩) (by assumption) ?_
    · intro w hSw; obtain ⟨n0, n1, n2, n3, n4, n5, n6, n7, n8⟩ := hSw; (try dsimp only at hSw); go_simp
    try simp only [Act.put, List.setIfInBounds_toArray, List.set_cons_zero, List.set_cons_succ]
    refine Lx.take_mk 2 (.int .i64 n) rfl (by kernel_rfl) (by kernel_rfl) (by kernel_rfl) (fun _ _ _ h => h) (Or.inl ⟨by rfl, ?_⟩) (by assumption) ?_
    · intro w hSw; obtain ⟨n0, n1, n2, n3, n4, n5, n6, n7, n8⟩ := hSw; (try dsimp only at hSw); go_simp
    try simp only [Act.put, List.setIfInBounds_toArray, List.set_cons_zero, List.set_cons_succ]
    refine Lx.take_mk 3 (.pointer (some ⟨R, 0, none⟩)) rfl (by kernel_rfl) (by kernel_rfl) (by kernel_rfl) (fun _ _ _ h => h) (Or.inl ⟨by rfl, ?_⟩) (by assumption) ?_
    · intro w hSw; obtain ⟨n0, n1, n2, n3, n4, n5, n6, n7, n8⟩ := hSw; (try dsimp only at hSw); go_simp
    try simp only [Act.put, List.setIfInBounds_toArray, List.set_cons_zero, List.set_cons_succ]
    refine Lx.take_mk 4 (.int .i64 f.k) rfl (by kernel_rfl) (by kernel_rfl) (by kernel_rfl) (fun _ _ _ h => h) (Or.inl ⟨by rfl, ?_⟩) (by assumption) ?_
    · intro w hSw; obtain ⟨n0, n1, n2, n3, n4, n5, n6, n7, n8⟩ := hSw; (try dsimp only at hSw); go_simp
    try simp only [Act.put, List.setIfInBounds_toArray, List.set_cons_zero, List.set_cons_succ]
    refine wpAnyH_ready (rs := [5]) (by kernel_rfl) (by simp) ?_
    refine AllReadyH.cons rfl (fun K hK => ?_) AllReadyH.nil
    have hc := hkd W0.drew
    go_simp
    refine hc.mono ?_
    rintro e W3 ⟨rfl, rfl⟩
    refine hK.out _ _ K1 (fun hHeld => ?_)
    clear hK K hc
    try simp only [Act.put, List.getElem_toArray, List.getElem_cons_succ, List.getElem_cons_zero, List.setIfInBounds_toArray, List.set_cons_zero, List.set_cons_succ]
    refine Lx.take_mk 6 (.bool true) rfl (by kernel_rfl) (by kernel_rfl) (by kernel_rfl) (fun _ _ _ h => h) (Or.inl ⟨by rfl, ?_⟩) (by assumption) ?_
    · intro w hSw; obtain ⟨n0, n1, n2, n3, n4, n5, n6, n7, n8⟩ := hSw; (try dsimp only at hSw); first | (go_simp; done) | (go_simp; rw [hlb]) | (go_simp; simp [hlb])
    try simp only [Act.put, List.setIfInBounds_toArray, List.set_cons_zero, List.set_cons_succ]
    refine Lx.take_mk 7 (.bool true) rfl (by kernel_rfl) (by kernel_rfl) (by kernel_rfl) (fun _ _ _ h => h) (Or.inl ⟨by rfl, ?_⟩) (by assumption) ?_
    · intro w hSw; obtain ⟨n0, n1, n2, n3, n4, n5, n6, n7, n8⟩ := hSw; (try dsimp only at hSw); go_simp
    try simp only [Act.put, List.setIfInBounds_toArray, List.set_cons_zero, List.set_cons_succ]
    refine Lx.take_mk 8 (fval f (.slice la f.l.args.length lc) (.slice ra f.r.args.length rc) (.slice ka n kc)) rfl (by kernel_rfl) (by kernel_rfl) (by kernel_rfl) (fun _ _ _ h => h) (Or.inl ⟨by rfl, ?_⟩) (by assumption) ?_
    · intro w hSw; obtain ⟨n0, n1, n2, n3, n4, n5, n6, n7, n8⟩ := hSw; (try dsimp only at hSw); go_simp
    try simp only [Act.put, List.setIfInBounds_toArray, List.set_cons_zero, List.set_cons_succ]
    refine wpAnyH_ready (rs := [9]) (by kernel_rfl) (by simp) ?_
    refine AllReadyH.cons rfl (fun K hK => ?_) AllReadyH.nil
    have hc := hName.out _ hSd
    rw [if_pos (by rfl)]
    go_simp
    refine hc.mono ?_
    rintro e W4 ⟨rfl, HW4⟩
    have K4 := hC _ HW4
    refine hK.out _ _ K4 (fun hHeld => ?_)
    clear hK K hc
    try simp only [Act.put, List.getElem_toArray, List.getElem_cons_succ, List.getElem_cons_zero, List.setIfInBounds_toArray, List.set_cons_zero, List.set_cons_succ]
    refine Lx.take_mk 10 (.bool false) rfl (by kernel_rfl) (by kernel_rfl) (by kernel_rfl) (fun _ _ _ h => h) (Or.inl ⟨by rfl, ?_⟩) (by assumption) ?_
    · intro w hSw; obtain ⟨n0, n1, n2, n3, n4, n5, n6, n7, n8⟩ := hSw; (try dsimp only at hSw); go_simp
    try simp only [Act.put, List.setIfInBounds_toArray, List.set_cons_zero, List.set_cons_succ]
    refine Lx.take_mk 11 (.bool false) rfl (by kernel_rfl) (by kernel_rfl) (by kernel_rfl) (fun _ _ _ h => h) (Or.inl ⟨by rfl, ?_⟩) (by assumption) ?_
    · intro w hSw; obtain ⟨n0, n1, n2, n3, n4, n5, n6, n7, n8⟩ := hSw; (try dsimp only at hSw); go_simp
    try simp only [Act.put, List.setIfInBounds_toArray, List.set_cons_zero, List.set_cons_succ]
    refine Lx.take_mk 12 undef rfl (by kernel_rfl) (by kernel_rfl) (by kernel_rfl) (fun _ _ _ h => h) (Or.inr ⟨by rfl, rfl⟩) (by assumption) ?_
    try simp only [Act.put, List.setIfInBounds_toArray, List.set_cons_zero, List.set_cons_succ]
    refine Lx.take_mk 13 undef rfl (by kernel_rfl) (by kernel_rfl) (by kernel_rfl) (fun _ _ _ h => h) (Or.inr ⟨by rfl, rfl⟩) (by assumption) ?_
    try simp only [Act.put, List.setIfInBounds_toArray, List.set_cons_zero, List.set_cons_succ]
    refine Lx.take_mk 14 (.bool false) rfl (by kernel_rfl) (by kernel_rfl) (by kernel_rfl) (fun _ _ _ h => h) (Or.inl ⟨by rfl, ?_⟩) (by assumption) ?_
    · intro w hSw; obtain ⟨n0, n1, n2, n3, n4, n5, n6, n7, n8⟩ := hSw; (try dsimp only at hSw); go_simp
    try simp only [Act.put, List.setIfInBounds_toArray, List.set_cons_zero, List.set_cons_succ]
    refine Lx.take_mk 15 (.bool false) rfl (by kernel_rfl) (by kernel_rfl) (by kernel_rfl) (fun _ _ _ h => h) (Or.inl ⟨by rfl, ?_⟩) (by assumption) ?_
    · intro w hSw; obtain ⟨n0, n1, n2, n3, n4, n5, n6, n7, n8⟩ := hSw; (try dsimp only at hSw); go_simp
    try simp only [Act.put, List.setIfInBounds_toArray, List.set_cons_zero, List.set_cons_succ]
    refine Lx.take_mk 16 undef rfl (by kernel_rfl) (by kernel_rfl) (by kernel_rfl) (fun _ _ _ h => h) (Or.inr ⟨by rfl, rfl⟩) (by assumption) ?_
    try simp only [Act.put, List.setIfInBounds_toArray, List.set_cons_zero, List.set_cons_succ]
    refine Lx.take_mk 17 undef rfl (by kernel_rfl) (by kernel_rfl) (by kernel_rfl) (fun _ _ _ h => h) (Or.inr ⟨by rfl, rfl⟩) (by assumption) ?_
    try simp only [Act.put, List.setIfInBounds_toArray, List.set_cons_zero, List.set_cons_succ]
    refine Lx.take_mk 18 undef rfl (by kernel_rfl) (by kernel_rfl) (by kernel_rfl) (fun _ _ _ h => h) (Or.inr ⟨by rfl, rfl⟩) (by assumption) ?_
    try simp only [Act.put, List.setIfInBounds_toArray, List.set_cons_zero, List.set_cons_succ]
    refine Lx.take_mk 19 (.bool false) rfl (by kernel_rfl) (by kernel_rfl) (by kernel_rfl) (fun _ _ _ h => h) (Or.inl ⟨by rfl, ?_⟩) (by assumption) ?_
    · intro w hSw; obtain ⟨n0, n1, n2, n3, n4, n5, n6, n7, n8⟩ := hSw; (try dsimp only at hSw); go_simp
    try simp only [Act.put, List.setIfInBounds_toArray, List.set_cons_zero, List.set_cons_succ]
    refine Lx.take_mk 20 (.bool false) rfl (by kernel_rfl) (by kernel_rfl) (by kernel_rfl) (fun _ _ _ h => h) (Or.inl ⟨by rfl, ?_⟩) (by assumption) ?_
    · intro w hSw; obtain ⟨n0, n1, n2, n3, n4, n5, n6, n7, n8⟩ := hSw; (try dsimp only at hSw); go_simp
    try simp only [Act.put, List.setIfInBounds_toArray, List.set_cons_zero, List.set_cons_succ]
    refine wpAnyH_done (by kernel_rfl) ?_ _
    go_wp2
    go_ret
    exact ⟨ret_bool HF.out.symm, hbl.out _ HW4⟩
  | true =>
    cases b2 with
    | false =>
      go_enter Tryz.func41, Tryz.ntmps41
      go_upto_region 1 with fail
      try simp only [hR]
      rw [show _ = W0 from HW0.out]
      refine wp_region_held_drew (S := fun X => X.cell? ⟨R, 0, none⟩ = some (.int .i64 f.k) ∧ X.cell? ⟨R, 1, none⟩ = some (.string f.nm) ∧ X.cell? ⟨R, 2, none⟩ = some (.int .i64 f.l.v) ∧ X.cell? ⟨R, 3, none⟩ = some (.string f.l.fn) ∧ X.cell? ⟨R, 4, none⟩ = some (.slice la f.l.args.length lc) ∧ X.cell? ⟨R, 5, none⟩ = some (.int .i64 f.r.v) ∧ X.cell? ⟨R, 6, none⟩ = some (.string f.r.fn) ∧ X.cell? ⟨R, 7, none⟩ = some (.slice ra f.r.args.length rc) ∧ X.cell? ⟨R, 8, none⟩ = some (.slice ka n kc)) (by kernel_rfl) K0 (fun hHeld => ?_)
      refine Lx.take_mk 0 (.pointer (some ⟨R, 8, none⟩)) rfl (by kernel_rfl) (by kernel_rfl) (by kernel_rfl) (fun _ _ _ h => h) (Or.inl ⟨by rfl, ?_⟩) (by assumption) ?_
      · intro w hSw; obtain ⟨n0, n1, n2, n3, n4, n5, n6, n7, n8⟩ := hSw; (try dsimp only at hSw); go_simp
      try simp only [Act.put, List.setIfInBounds_toArray, List.set_cons_zero, List.set_cons_succ]
      refine Lx.take_mk 1 (.slice ka n kc) rfl (by kernel_rfl) (by kernel_rfl) (by kernel_rfl) (fun _ _ _ h => h) (Or.inl ⟨by rfl, ?_⟩) (by assumption) ?_
      · intro w hSw; obtain ⟨n0, n1, n2, n3, n4, n5, n6, n7, n8⟩ := hSw; (try dsimp only at hSw); go_simp
      try simp only [Act.put, List.setIfInBounds_toArray, List.set_cons_zero, List.set_cons_succ]
      refine Lx.take_mk 2 (.int .i64 n) rfl (by kernel_rfl) (by kernel_rfl) (by kernel_rfl) (fun _ _ _ h => h) (Or.inl ⟨by rfl, ?_⟩) (by assumption) ?_
      · intro w hSw; obtain ⟨n0, n1, n2, n3, n4, n5, n6, n7, n8⟩ := hSw; (try dsimp only at hSw); go_simp
      try simp only [Act.put, List.setIfInBounds_toArray, List.set_cons_zero, List.set_cons_succ]
      refine Lx.take_mk 3 (.pointer (some ⟨R, 0, none⟩)) rfl (by kernel_rfl) (by kernel_rfl) (by kernel_rfl) (fun _ _ _ h => h) (Or.inl ⟨by rfl, ?_⟩) (by assumption) ?_
      · intro w hSw; obtain ⟨n0, n1, n2, n3, n4, n5, n6, n7, n8⟩ := hSw; (try dsimp only at hSw); go_simp
      try simp only [Act.put, List.setIfInBounds_toArray, List.set_cons_zero, List.set_cons_succ]
      refine Lx.take_mk 4 (.int .i64 f.k) rfl (by kernel_rfl) (by kernel_rfl) (by kernel_rfl) (fun _ _ _ h => h) (Or.inl ⟨by rfl, ?_⟩) (by assumption) ?_
      · intro w hSw; obtain ⟨n0, n1, n2, n3, n4, n5, n6, n7, n8⟩ := hSw; (try dsimp only at hSw); go_simp
      try simp only [Act.put, List.setIfInBounds_toArray, List.set_cons_zero, List.set_cons_succ]
      refine wpAnyH_ready (rs := [5]) (by kernel_rfl) (by simp) ?_
      refine AllReadyH.cons rfl (fun K hK => ?_) AllReadyH.nil
      have hc := hkd W0.drew
      go_simp
      refine hc.mono ?_
      rintro e W3 ⟨rfl, rfl⟩
      refine hK.out _ _ K1 (fun hHeld => ?_)
      clear hK K hc
      try simp only [Act.put, List.getElem_toArray, List.getElem_cons_succ, List.getElem_cons_zero, List.setIfInBounds_toArray, List.set_cons_zero, List.set_cons_succ]
      refine Lx.take_mk 6 (.bool true) rfl (by kernel_rfl) (by kernel_rfl) (by kernel_rfl) (fun _ _ _ h => h) (Or.inl ⟨by rfl, ?_⟩) (by assumption) ?_
      · intro w hSw; obtain ⟨n0, n1, n2, n3, n4, n5, n6, n7, n8⟩ := hSw; (try dsimp only at hSw); first | (go_simp; done) | (go_simp; rw [hlb]) | (go_simp; simp [hlb])
      try simp only [Act.put, List.setIfInBounds_toArray, List.set_cons_zero, List.set_cons_succ]
      refine Lx.take_mk 7 (.bool true) rfl (by kernel_rfl) (by kernel_rfl) (by kernel_rfl) (fun _ _ _ h => h) (Or.inl ⟨by rfl, ?_⟩) (by assumption) ?_
      · intro w hSw; obtain ⟨n0, n1, n2, n3, n4, n5, n6, n7, n8⟩ := hSw; (try dsimp only at hSw); go_simp
      try simp only [Act.put, List.setIfInBounds_toArray, List.set_cons_zero, List.set_cons_succ]
      refine Lx.take_mk 8 (fval f (.slice la f.l.args.length lc) (.slice ra f.r.args.length rc) (.slice ka n kc)) rfl (by kernel_rfl) (by kernel_rfl) (by kernel_rfl) (fun _ _ _ h => h) (Or.inl ⟨by rfl, ?_⟩) (by assumption) ?_
      · intro w hSw; obtain ⟨n0, n1, n2, n3, n4, n5, n6, n7, n8⟩ := hSw; (try dsimp only at hSw); go_simp
      try simp only [Act.put, List.setIfInBounds_toArray, List.set_cons_zero, List.set_cons_succ]
      refine wpAnyH_ready (rs := [9]) (by kernel_rfl) (by simp) ?_
      refine AllReadyH.cons rfl (fun K hK => ?_) AllReadyH.nil
      have hc := hName.out _ hSd
      rw [if_pos (by rfl)]
      go_simp
      refine hc.mono ?_
      rintro e W4 ⟨rfl, HW4⟩
      have K4 := hC _ HW4
      refine hK.out _ _ K4 (fun hHeld => ?_)
      clear hK K hc
      try simp only [Act.put, List.getElem_toArray, List.getElem_cons_succ, List.getElem_cons_zero, List.setIfInBounds_toArray, List.set_cons_zero, List.set_cons_succ]
      refine Lx.take_mk 10 (.bool true) rfl (by kernel_rfl) (by kernel_rfl) (by kernel_rfl) (fun _ _ _ h => h) (Or.inl ⟨by rfl, ?_⟩) (by assumption) ?_
      · intro w hSw; obtain ⟨n0, n1, n2, n3, n4, n5, n6, n7, n8⟩ := hSw; (try dsimp only at hSw); go_simp
      try simp only [Act.put, List.setIfInBounds_toArray, List.set_cons_zero, List.set_cons_succ]
      refine Lx.take_mk 11 (.bool true) rfl (by kernel_rfl) (by kernel_rfl) (by kernel_rfl) (fun _ _ _ h => h) (Or.inl ⟨by rfl, ?_⟩) (by assumption) ?_
      · intro w hSw; obtain ⟨n0, n1, n2, n3, n4, n5, n6, n7, n8⟩ := hSw; (try dsimp only at hSw); go_simp
      try simp only [Act.put, List.setIfInBounds_toArray, List.set_cons_zero, List.set_cons_succ]
      refine Lx.take_mk 12 (fval f (.slice la f.l.args.length lc) (.slice ra f.r.args.length rc) (.slice ka n kc)) rfl (by kernel_rfl) (by kernel_rfl) (by kernel_rfl) (fun _ _ _ h => h) (Or.inl ⟨by rfl, ?_⟩) (by assumption) ?_
      · intro w hSw; obtain ⟨n0, n1, n2, n3, n4, n5, n6, n7, n8⟩ := hSw; (try dsimp only at hSw); go_simp
      try simp only [Act.put, List.setIfInBounds_toArray, List.set_cons_zero, List.set_cons_succ]
      refine wpAnyH_ready (rs := [13]) (by kernel_rfl) (by simp) ?_
      refine AllReadyH.cons rfl (fun K hK => ?_) AllReadyH.nil
      have hc := hTerm.out _ HW4
      rw [if_pos (by rfl)]
      go_simp
      refine hc.mono ?_
      rintro e W5 ⟨rfl, HW5⟩
      have K5 := hC _ HW5
      refine hK.out _ _ K5 (fun hHeld => ?_)
      clear hK K hc
      try simp only [Act.put, List.getElem_toArray, List.getElem_cons_succ, List.getElem_cons_zero, List.setIfInBounds_toArray, List.set_cons_zero, List.set_cons_succ]
      refine Lx.take_mk 14 (.bool false) rfl (by kernel_rfl) (by kernel_rfl) (by kernel_rfl) (fun _ _ _ h => h) (Or.inl ⟨by rfl, ?_⟩) (by assumption) ?_
      · intro w hSw; obtain ⟨n0, n1, n2, n3, n4, n5, n6, n7, n8⟩ := hSw; (try dsimp only at hSw); go_simp
      try simp only [Act.put, List.setIfInBounds_toArray, List.set_cons_zero, List.set_cons_succ]
      refine Lx.take_mk 15 (.bool false) rfl (by kernel_rfl) (by kernel_rfl) (by kernel_rfl) (fun _ _ _ h => h) (Or.inl ⟨by rfl, ?_⟩) (by assumption) ?_
      · intro w hSw; obtain ⟨n0, n1, n2, n3, n4, n5, n6, n7, n8⟩ := hSw; (try dsimp only at hSw); go_simp
      try simp only [Act.put, List.setIfInBounds_toArray, List.set_cons_zero, List.set_cons_succ]
      refine Lx.take_mk 16 undef rfl (by kernel_rfl) (by kernel_rfl) (by kernel_rfl) (fun _ _ _ h => h) (Or.inr ⟨by rfl, rfl⟩) (by assumption) ?_
      try simp only [Act.put, List.setIfInBounds_toArray, List.set_cons_zero, List.set_cons_succ]
      refine Lx.take_mk 17 undef rfl (by kernel_rfl) (by kernel_rfl) (by kernel_rfl) (fun _ _ _ h => h) (Or.inr ⟨by rfl, rfl⟩) (by assumption) ?_
      try simp only [Act.put, List.setIfInBounds_toArray, List.set_cons_zero, List.set_cons_succ]
      refine Lx.take_mk 18 undef rfl (by kernel_rfl) (by kernel_rfl) (by kernel_rfl) (fun _ _ _ h => h) (Or.inr ⟨by rfl, rfl⟩) (by assumption) ?_
      try simp only [Act.put, List.setIfInBounds_toArray, List.set_cons_zero, List.set_cons_succ]
      refine Lx.take_mk 19 (.bool false) rfl (by kernel_rfl) (by kernel_rfl) (by kernel_rfl) (fun _ _ _ h => h) (Or.inl ⟨by rfl, ?_⟩) (by assumption) ?_
      · intro w hSw; obtain ⟨n0, n1, n2, n3, n4, n5, n6, n7, n8⟩ := hSw; (try dsimp only at hSw); go_simp
      try simp only [Act.put, List.setIfInBounds_toArray, List.set_cons_zero, List.set_cons_succ]
      refine Lx.take_mk 20 (.bool false) rfl (by kernel_rfl) (by kernel_rfl) (by kernel_rfl) (fun _ _ _ h => h) (Or.inl ⟨by rfl, ?_⟩) (by assumption) ?_
      · intro w hSw; obtain ⟨n0, n1, n2, n3, n4, n5, n6, n7, n8⟩ := hSw; (try dsimp only at hSw); go_simp
      try simp only [Act.put, List.setIfInBounds_toArray, List.set_cons_zero, List.set_cons_succ]
      refine wpAnyH_done (by kernel_rfl) ?_ _
      go_wp2
      go_ret
      exact ⟨ret_bool HF.out.symm, hbl.out _ HW5⟩
    | true =>
      go_enter Tryz.func41, Tryz.ntmps41
      go_upto_region 1 with fail
      try simp only [hR]
      rw [show _ = W0 from HW0.out]
      refine wp_region_held_drew (S := fun X => X.cell? ⟨R, 0, none⟩ = some (.int .i64 f.k) ∧ X.cell? ⟨R, 1, none⟩ = some (.string f.nm) ∧ X.cell? ⟨R, 2, none⟩ = some (.int .i64 f.l.v) ∧ X.cell? ⟨R, 3, none⟩ = some (.string f.l.fn) ∧ X.cell? ⟨R, 4, none⟩ = some (.slice la f.l.args.length lc) ∧ X.cell? ⟨R, 5, none⟩ = some (.int .i64 f.r.v) ∧ X.cell? ⟨R, 6, none⟩ = some (.string f.r.fn) ∧ X.cell? ⟨R, 7, none⟩ = some (.slice ra f.r.args.length rc) ∧ X.cell? ⟨R, 8, none⟩ = some (.slice ka n kc)) (by kernel_rfl) K0 (fun hHeld => ?_)
      refine Lx.take_mk 0 (.pointer (some ⟨R, 8, none⟩)) rfl (by kernel_rfl) (by kernel_rfl) (by kernel_rfl) (fun _ _ _ h => h) (Or.inl ⟨by rfl, ?_⟩) (by assumption) ?_
      · intro w hSw; obtain ⟨n0, n1, n2, n3, n4, n5, n6, n7, n8⟩ := hSw; (try dsimp only at hSw); go_simp
      try simp only [Act.put, List.setIfInBounds_toArray, List.set_cons_zero, List.set_cons_succ]
      refine Lx.take_mk 1 (.slice ka n kc) rfl (by kernel_rfl) (by kernel_rfl) (by kernel_rfl) (fun _ _ _ h => h) (Or.inl ⟨by rfl, ?_⟩) (by assumption) ?_
      · intro w hSw; obtain ⟨n0, n1, n2, n3, n4, n5, n6, n7, n8⟩ := hSw; (try dsimp only at hSw); go_simp
      try simp only [Act.put, List.setIfInBounds_toArray, List.set_cons_zero, List.set_cons_succ]
      refine Lx.take_mk 2 (.int .i64 n) rfl (by kernel_rfl) (by kernel_rfl) (by kernel_rfl) (fun _ _ _ h => h) (Or.inl ⟨by rfl, ?_⟩) (by assumption) ?_
      · intro w hSw; obtain ⟨n0, n1, n2, n3, n4, n5, n6, n7, n8⟩ := hSw; (try dsimp only at hSw); go_simp
      try simp only [Act.put, List.setIfInBounds_toArray, List.set_cons_zero, List.set_cons_succ]
      refine Lx.take_mk 3 (.pointer (some ⟨R, 0, none⟩)) rfl (by kernel_rfl) (by kernel_rfl) (by kernel_rfl) (fun _ _ _ h => h) (Or.inl ⟨by rfl, ?_⟩) (by assumption) ?_
      · intro w hSw; obtain ⟨n0, n1, n2, n3, n4, n5, n6, n7, n8⟩ := hSw; (try dsimp only at hSw); go_simp
      try simp only [Act.put, List.setIfInBounds_toArray, List.set_cons_zero, List.set_cons_succ]
      refine Lx.take_mk 4 (.int .i64 f.k) rfl (by kernel_rfl) (by kernel_rfl) (by kernel_rfl) (fun _ _ _ h => h) (Or.inl ⟨by rfl, ?_⟩) (by assumption) ?_
      · intro w hSw; obtain ⟨n0, n1, n2, n3, n4, n5, n6, n7, n8⟩ := hSw; (try dsimp only at hSw); go_simp
      try simp only [Act.put, List.setIfInBounds_toArray, List.set_cons_zero, List.set_cons_succ]
      refine wpAnyH_ready (rs := [5]) (by kernel_rfl) (by simp) ?_
      refine AllReadyH.cons rfl (fun K hK => ?_) AllReadyH.nil
      have hc := hkd W0.drew
      go_simp
      refine hc.mono ?_
      rintro e W3 ⟨rfl, rfl⟩
      refine hK.out _ _ K1 (fun hHeld => ?_)
      clear hK K hc
      try simp only [Act.put, List.getElem_toArray, List.getElem_cons_succ, List.getElem_cons_zero, List.setIfInBounds_toArray, List.set_cons_zero, List.set_cons_succ]
      refine Lx.take_mk 6 (.bool true) rfl (by kernel_rfl) (by kernel_rfl) (by kernel_rfl) (fun _ _ _ h => h) (Or.inl ⟨by rfl, ?_⟩) (by assumption) ?_
      · intro w hSw; obtain ⟨n0, n1, n2, n3, n4, n5, n6, n7, n8⟩ := hSw; (try dsimp only at hSw); first | (go_simp; done) | (go_simp; rw [hlb]) | (go_simp; simp [hlb])
      try simp only [Act.put, List.setIfInBounds_toArray, List.set_cons_zero, List.set_cons_succ]
      refine Lx.take_mk 7 (.bool true) rfl (by kernel_rfl) (by kernel_rfl) (by kernel_rfl) (fun _ _ _ h => h) (Or.inl ⟨by rfl, ?_⟩) (by assumption) ?_
      · intro w hSw; obtain ⟨n0, n1, n2, n3, n4, n5, n6, n7, n8⟩ := hSw; (try dsimp only at hSw); go_simp
      try simp only [Act.put, List.setIfInBounds_toArray, List.set_cons_zero, List.set_cons_succ]
      refine Lx.take_mk 8 (fval f (.slice la f.l.args.length lc) (.slice ra f.r.args.length rc) (.slice ka n kc)) rfl (by kernel_rfl) (by kernel_rfl) (by kernel_rfl) (fun _ _ _ h => h) (Or.inl ⟨by rfl, ?_⟩) (by assumption) ?_
      · intro w hSw; obtain ⟨n0, n1, n2, n3, n4, n5, n6, n7, n8⟩ := hSw; (try dsimp only at hSw); go_simp
      try simp only [Act.put, List.setIfInBounds_toArray, List.set_cons_zero, List.set_cons_succ]
      refine wpAnyH_ready (rs := [9]) (by kernel_rfl) (by simp) ?_
      refine AllReadyH.cons rfl (fun K hK => ?_) AllReadyH.nil
      have hc := hName.out _ hSd
      rw [if_pos (by rfl)]
      go_simp
      refine hc.mono ?_
      rintro e W4 ⟨rfl, HW4⟩
      have K4 := hC _ HW4
      refine hK.out _ _ K4 (fun hHeld => ?_)
      clear hK K hc
      try simp only [Act.put, List.getElem_toArray, List.getElem_cons_succ, List.getElem_cons_zero, List.setIfInBounds_toArray, List.set_cons_zero, List.set_cons_succ]
      refine Lx.take_mk 10 (.bool true) rfl (by kernel_rfl) (by kernel_rfl) (by kernel_rfl) (fun _ _ _ h => h) (Or.inl ⟨by rfl, ?_⟩) (by assumption) ?_
      · intro w hSw; obtain ⟨n0, n1, n2, n3, n4, n5, n6, n7, n8⟩ := hSw; (try dsimp only at hSw); go_simp
      try simp only [Act.put, List.setIfInBounds_toArray, List.set_cons_zero, List.set_cons_succ]
      refine Lx.take_mk 11 (.bool true) rfl (by kernel_rfl) (by kernel_rfl) (by kernel_rfl) (fun _ _ _ h => h) (Or.inl ⟨by rfl, ?_⟩) (by assumption) ?_
      · intro w hSw; obtain ⟨n0, n1, n2, n3, n4, n5, n6, n7, n8⟩ := hSw; (try dsimp only at hSw); go_simp
      try simp only [Act.put, List.setIfInBounds_toArray, List.set_cons_zero, List.set_cons_succ]
      refine Lx.take_mk 12 (fval f (.slice la f.l.args.length lc) (.slice ra f.r.args.length rc) (.slice ka n kc)) rfl (by kernel_rfl) (by kernel_rfl) (by kernel_rfl) (fun _ _ _ h => h) (Or.inl ⟨by rfl, ?_⟩) (by assumption) ?_
      · intro w hSw; obtain ⟨n0, n1, n2, n3, n4, n5, n6, n7, n8⟩ := hSw; (try dsimp only at hSw); go_simp
      try simp only [Act.put, List.setIfInBounds_toArray, List.set_cons_zero, List.set_cons_succ]
      refine wpAnyH_ready (rs := [13]) (by kernel_rfl) (by simp) ?_
      refine AllReadyH.cons rfl (fun K hK => ?_) AllReadyH.nil
      have hc := hTerm.out _ HW4
      rw [if_pos (by rfl)]
      go_simp
      refine hc.mono ?_
      rintro e W5 ⟨rfl, HW5⟩
      have K5 := hC _ HW5
      refine hK.out _ _ K5 (fun hHeld => ?_)
      clear hK K hc
      try simp only [Act.put, List.getElem_toArray, List.getElem_cons_succ, List.getElem_cons_zero, List.setIfInBounds_toArray, List.set_cons_zero, List.set_cons_succ]
      refine Lx.take_mk 14 (.bool true) rfl (by kernel_rfl) (by kernel_rfl) (by kernel_rfl) (fun _ _ _ h => h) (Or.inl ⟨by rfl, ?_⟩) (by assumption) ?_
      · intro w hSw; obtain ⟨n0, n1, n2, n3, n4, n5, n6, n7, n8⟩ := hSw; (try dsimp only at hSw); go_simp
      try simp only [Act.put, List.setIfInBounds_toArray, List.set_cons_zero, List.set_cons_succ]
      refine Lx.take_mk 15 (.bool true) rfl (by kernel_rfl) (by kernel_rfl) (by kernel_rfl) (fun _ _ _ h => h) (Or.inl ⟨by rfl, ?_⟩) (by assumption) ?_
      · intro w hSw; obtain ⟨n0, n1, n2, n3, n4, n5, n6, n7, n8⟩ := hSw; (try dsimp only at hSw); go_simp
      try simp only [Act.put, List.setIfInBounds_toArray, List.set_cons_zero, List.set_cons_succ]
      refine Lx.take_mk 16 (.pointer (some ⟨R, 8, none⟩)) rfl (by kernel_rfl) (by kernel_rfl) (by kernel_rfl) (fun _ _ _ h => h) (Or.inl ⟨by rfl, ?_⟩) (by assumption) ?_
      · intro w hSw; obtain ⟨n0, n1, n2, n3, n4, n5, n6, n7, n8⟩ := hSw; (try dsimp only at hSw); go_simp
      try simp only [Act.put, List.setIfInBounds_toArray, List.set_cons_zero, List.set_cons_succ]
      refine Lx.take_mk 17 (.slice ka n kc) rfl (by kernel_rfl) (by kernel_rfl) (by kernel_rfl) (fun _ _ _ h => h) (Or.inl ⟨by rfl, ?_⟩) (by assumption) ?_
      · intro w hSw; obtain ⟨n0, n1, n2, n3, n4, n5, n6, n7, n8⟩ := hSw; (try dsimp only at hSw); go_simp
      try simp only [Act.put, List.setIfInBounds_toArray, List.set_cons_zero, List.set_cons_succ]
      refine wpAnyH_ready (rs := [18]) (by kernel_rfl) (by simp) ?_
      refine AllReadyH.cons rfl (fun K hK => ?_) AllReadyH.nil
      have hc := hAll.out _ HW5
      rw [if_pos (by rfl)]
      go_simp
      refine hc.mono ?_
      rintro e W6 ⟨rfl, HW6⟩
      have K6 := hC _ HW6
      refine hK.out _ _ K6 (fun hHeld => ?_)
      clear hK K hc
      try simp only [Act.put, List.getElem_toArray, List.getElem_cons_succ, List.getElem_cons_zero, List.setIfInBounds_toArray, List.set_cons_zero, List.set_cons_succ]
      refine Lx.take_mk 19 (.bool b3) rfl (by kernel_rfl) (by kernel_rfl) (by kernel_rfl) (fun _ _ _ h => h) (Or.inl ⟨by rfl, ?_⟩) (by assumption) ?_
      · intro w hSw; obtain ⟨n0, n1, n2, n3, n4, n5, n6, n7, n8⟩ := hSw; (try dsimp only at hSw); go_simp
      try simp only [Act.put, List.setIfInBounds_toArray, List.set_cons_zero, List.set_cons_succ]
      refine Lx.take_mk 20 (.bool b3) rfl (by kernel_rfl) (by kernel_rfl) (by kernel_rfl) (fun _ _ _ h => h) (Or.inl ⟨by rfl, ?_⟩) (by assumption) ?_
      · intro w hSw; obtain ⟨n0, n1, n2, n3, n4, n5, n6, n7, n8⟩ := hSw; (try dsimp only at hSw); go_simp
      try simp only [Act.put, List.setIfInBounds_toArray, List.set_cons_zero, List.set_cons_succ]
      refine wpAnyH_done (by kernel_rfl) ?_ _
      go_wp2
      go_ret
      exact ⟨ret_bool HF.out.symm, hbl.out _ HW6⟩
/-- What Right answers. -/
noncomputable def rightE (f : Fm) : Int := if shB f = true then limE f.wide f.size f.depth else 1
theorem termsB_zero {f : Fm} (hk : f.k ≠ 1) (h : termsB f = true) : f.l = t0 ∧ f.r = t0 := by
  unfold termsB at h
  rw [if_neg hk, Bool.and_eq_true] at h
  exact ⟨same_iff.1 h.1, same_iff.1 h.2⟩
theorem shB_sane (f : Fm) : shB f = true → f.depth ≤ 1048577 → f.sane := by
  refine Fm.ind (P := fun f => shB f = true → f.depth ≤ 1048577 → f.sane) (fun f ih => ?_) f
  intro h hd
  have hall : Fm.sane.sanes f.kids := by
    have h1 := shB_eq f
    rw [h] at h1
    have h2 : f.kids.all shB = true := by
      have := h1.symm
      simp only [Bool.and_eq_true] at this
      exact this.2.2.2
    have key : ∀ l : List Fm, (∀ a ∈ l, a ∈ f.kids) → Fm.sane.sanes l := by
      intro l
      induction l with
      | nil => intro _; rw [Fm.sane.sanes]; trivial
      | cons a r ihl =>
        intro hm
        rw [Fm.sane.sanes]
        refine ⟨ih a (hm a (by simp)) (List.all_eq_true.1 h2 a (hm a (by simp))) ?_, ihl fun b hb => hm b (by simp [hb])⟩
        have h3 := depths_ge (hm a (by simp))
        have h4 := fm_depth_eq f
        omega
    exact key _ fun a h => h
  have h1 := shB_eq f
  rw [h] at h1
  have h2 := h1.symm
  simp only [Bool.and_eq_true, decide_eq_true_eq] at h2
  have h4 := fm_depth_eq f
  cases f with
  | mk k n l r ks =>
    rw [Fm.sane]
    refine ⟨fun hk => ?_, hall⟩
    have hk' : (Fm.mk k n l r ks).k = 1 := hk
    rw [if_pos hk'] at h4
    have hl : (Fm.mk k n l r ks).l = l := rfl
    have hr : (Fm.mk k n l r ks).r = r := rfl
    rw [hl, hr] at h4
    refine ⟨short_of (by omega), short_of (by omega), ?_⟩
    have h5 := h2.1
    rw [hk'] at h5
    have h6 : ((ks.length : Int)) = 0 := h5
    exact List.eq_nil_of_length_eq_zero (by omega)
theorem right_any {P : Nat → Prop} {f : Fm} (hn : f.nsm) (hd : f.depth ≤ 1048577) (hz : wrap64 f.size = f.size) {sl sr sk : Value} {w : World} (h : FmP P w f sl sr sk) : Calls Tryz.prog 18 #[fval f sl sr sk] w fun e w' => e = .returned (.int .i64 (rightE f)) ∧ Below w.heap.size w w' := by
  obtain ⟨la, lc, rfl, _, _⟩ := h.l.slice'
  obtain ⟨ra, rc, rfl, _, _⟩ := h.r.slice'
  obtain ⟨ka, kc, rfl, _, _⟩ := h.k.slice
  have hI0 := SzI.start h
  have HG : Hid (∀ X, Below w.heap.size w X → FmP P X f (.slice la f.l.args.length lc) (.slice ra f.r.args.length rc) (.slice ka f.kids.length kc)) := fun X hX => h.grow hX
  obtain ⟨n, hnn⟩ : ∃ n, f.kids.length = n := ⟨_, rfl⟩
  rw [hnn] at hI0 HG ⊢
  have hSh : Hid (∀ X, SzI w f (.slice la f.l.args.length lc) (.slice ra f.r.args.length rc) (.slice ka n kc) X → Calls Tryz.prog 41 #[fval f (.slice la f.l.args.length lc) (.slice ra f.r.args.length rc) (.slice ka n kc)] X fun e X' => e = .returned (.bool (shB f)) ∧ SzI w f (.slice la f.l.args.length lc) (.slice ra f.r.args.length rc) (.slice ka n kc) X') := fun X hX => (shaped_any f hn P _ _ _ X (HG.out X hX.bel)).mono fun _ _ ⟨he, hb⟩ => ⟨he, hX.keep hb⟩
  have hWd : Hid (∀ X, SzI w f (.slice la f.l.args.length lc) (.slice ra f.r.args.length rc) (.slice ka n kc) X → Calls Tryz.prog 43 #[fval f (.slice la f.l.args.length lc) (.slice ra f.r.args.length rc) (.slice ka n kc)] X fun e X' => e = .returned (.bool f.wide) ∧ SzI w f (.slice la f.l.args.length lc) (.slice ra f.r.args.length rc) (.slice ka n kc) X') := fun X hX => (wide_any f P _ _ _ X (HG.out X hX.bel)).mono fun _ _ ⟨he, hb⟩ => ⟨he, hX.keep hb⟩
  have hSi : Hid (f.sane → ∀ X, SzI w f (.slice la f.l.args.length lc) (.slice ra f.r.args.length rc) (.slice ka n kc) X → Calls Tryz.prog 21 #[fval f (.slice la f.l.args.length lc) (.slice ra f.r.args.length rc) (.slice ka n kc)] X fun e X' => e = .returned (.int .i64 f.size) ∧ SzI w f (.slice la f.l.args.length lc) (.slice ra f.r.args.length rc) (.slice ka n kc) X') := fun hs X hX => (fsize_any f hs P _ _ _ X (HG.out X hX.bel)).mono fun _ _ ⟨he, hb⟩ => ⟨by rw [he, hz], hX.keep hb⟩
  have hDe : Hid (f.sane → ∀ X, SzI w f (.slice la f.l.args.length lc) (.slice ra f.r.args.length rc) (.slice ka n kc) X → Calls Tryz.prog 22 #[fval f (.slice la f.l.args.length lc) (.slice ra f.r.args.length rc) (.slice ka n kc)] X fun e X' => e = .returned (.int .i64 f.depth) ∧ SzI w f (.slice la f.l.args.length lc) (.slice ra f.r.args.length rc) (.slice ka n kc) X') := fun hs X hX => (fdepth_any f hs (by omega) P _ _ _ X (HG.out X hX.bel)).mono fun _ _ ⟨he, hb⟩ => ⟨he, hX.keep hb⟩
  have hdr : Hid (∀ X, SzI w f (.slice la f.l.args.length lc) (.slice ra f.r.args.length rc) (.slice ka n kc) X → SzI w f (.slice la f.l.args.length lc) (.slice ra f.r.args.length rc) (.slice ka n kc) X.drew) := fun X hX => hX.keep (Below.refl _ X).drew
  have hC : ∀ X, SzI w f (.slice la f.l.args.length lc) (.slice ra f.r.args.length rc) (.slice ka n kc) X → X.cell? ⟨w.heap.size, 0, none⟩ = some (.int .i64 f.k) ∧ X.cell? ⟨w.heap.size, 1, none⟩ = some (.string f.nm) ∧ X.cell? ⟨w.heap.size, 2, none⟩ = some (.int .i64 f.l.v) ∧ X.cell? ⟨w.heap.size, 3, none⟩ = some (.string f.l.fn) ∧ X.cell? ⟨w.heap.size, 4, none⟩ = some (.slice la f.l.args.length lc) ∧ X.cell? ⟨w.heap.size, 5, none⟩ = some (.int .i64 f.r.v) ∧ X.cell? ⟨w.heap.size, 6, none⟩ = some (.string f.r.fn) ∧ X.cell? ⟨w.heap.size, 7, none⟩ = some (.slice ra f.r.args.length rc) ∧ X.cell? ⟨w.heap.size, 8, none⟩ = some (.slice ka n kc) := fun X hX => (f_cells hX.box).1
  have hbl : Hid (∀ X, SzI w f (.slice la f.l.args.length lc) (.slice ra f.r.args.length rc) (.slice ka n kc) X → Below w.heap.size w X) := fun X h => h.bel
  obtain ⟨S, hS⟩ : ∃ S, SzI w f (.slice la f.l.args.length lc) (.slice ra f.r.args.length rc) (.slice ka n kc) = S := ⟨_, rfl⟩
  rw [hS] at hI0 hSh hWd hSi hDe hdr hC hbl
  obtain ⟨W0, hW0⟩ : ∃ X, w.alloc (fbox f (.slice la f.l.args.length lc) (.slice ra f.r.args.length rc) (.slice ka n kc)) = X := ⟨_, rfl⟩
  obtain ⟨R, hR⟩ : ∃ R, w.heap.size = R := ⟨_, rfl⟩
  rw [hW0] at hI0
  rw [hR] at hC
  have HW0 := hidR hW0
  have HS0 := hidR (fun hs : shB f = true => shB_sane f hs hd)
  have HE : Hid (rightE f = if shB f = true then limE f.wide f.size f.depth else 1) := rfl
  have hcs := hSh.out _ hI0
  obtain ⟨b1, hb1⟩ : ∃ b, shB f = b := ⟨_, rfl⟩
  rw [hb1] at hcs HE HS0
  obtain ⟨n0, n1, n2, n3, n4, n5, n6, n7, n8⟩ := hC _ hI0
  clear hS h hn hd hz hW0 hnn hb1 HG hI0
  cases b1 with
  | false =>
    go_enter Tryz.func18, Tryz.ntmps18
    go_upto_region 1 with fail
    try simp only [hR]
    rw [show _ = W0 from HW0.out]
    go_wp2_with fail
    refine hcs.mono ?_
    rintro e W1 ⟨rfl, hI1⟩
    have HB := hidR (hbl.out _ hI1)
    clear hcs hI1 n0 n1 n2 n3 n4 n5 n6 n7 n8
    go_wp2
    go_ret
    exact ⟨ret_i64 HE.out.symm, HB.out⟩
  | true =>
    have hSi2 := hSi.out (HS0.out rfl)
    have hDe2 := hDe.out (HS0.out rfl)
    obtain ⟨wd, hwd⟩ : ∃ b, f.wide = b := ⟨_, rfl⟩
    obtain ⟨sz, hsz⟩ : ∃ b, f.size = b := ⟨_, rfl⟩
    obtain ⟨dp, hdp⟩ : ∃ b, f.depth = b := ⟨_, rfl⟩
    rw [hwd] at hWd
    rw [hsz] at hSi2
    rw [hdp] at hDe2
    rw [hwd, hsz, hdp] at HE
    have HSi := hidR hSi2
    have HDe := hidR hDe2
    have hlim := fun W => limited_any wd sz dp W
    clear hSi2 hDe2 hwd hsz hdp hSi hDe HS0
    go_enter Tryz.func18, Tryz.ntmps18
    go_upto_region 1 with fail
    try simp only [hR]
    rw [show _ = W0 from HW0.out]
    go_wp2_with fail
    refine hcs.mono ?_
    rintro e W1 ⟨rfl, hI1⟩
    clear hcs n0 n1 n2 n3 n4 n5 n6 n7 n8
    have K0 := hC _ hI1
    have hSd := hdr.out _ hI1
    have K1 := hC _ hSd
    go_wp2
    go_region_held3 (fun X => X.cell? ⟨R, 0, none⟩ = some (.int .i64 f.k) ∧ X.cell? ⟨R, 1, none⟩ = some (.string f.nm) ∧ X.cell? ⟨R, 2, none⟩ = some (.int .i64 f.l.v) ∧ X.cell? ⟨R, 3, none⟩ = some (.string f.l.fn) ∧ X.cell? ⟨R, 4, none⟩ = some (.slice la f.l.args.length lc) ∧ X.cell? ⟨R, 5, none⟩ = some (.int .i64 f.r.v) ∧ X.cell? ⟨R, 6, none⟩ = some (.string f.r.fn) ∧ X.cell? ⟨R, 7, none⟩ = some (.slice ra f.r.args.length rc) ∧ X.cell? ⟨R, 8, none⟩ = some (.slice ka n kc)) (first | exact K0 | exact K1 | exact K4 | exact K5 | exact K6) (first
      | (go_at_call 43; refine (hWd.out _ hSd).mono ?_; rintro e W4 ⟨rfl, HW4⟩; have K4 := hC _ HW4)
      | (go_at_call 21; refine (HSi.out _ HW4).mono ?_; rintro e W5 ⟨rfl, HW5⟩; have K5 := hC _ HW5)
      | (go_at_call 22; refine (HDe.out _ HW5).mono ?_; rintro e W6 ⟨rfl, HW6⟩; have K6 := hC _ HW6)
      | (go_at_call 42; refine (hlim _).mono ?_; rintro e W7 ⟨rfl, rfl⟩))
    go_wp2
    go_ret
    exact ⟨ret_i64 HE.out.symm, hbl.out _ HW6⟩
