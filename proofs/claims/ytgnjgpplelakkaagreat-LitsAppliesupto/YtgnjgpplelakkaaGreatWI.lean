import Derived.Test.YtgnjgpplelakkaaGreatWB
import Derived.Test.YtgnjgpplelakkaaGreatWE

/-
  What lits.Apply makes of one side.
-/
namespace Go.Proofs.YtgnjgpplelakkaaGreat
open Go.RowKit Go.Maps

theorem ShS.bl {w Wd : World} {b1 b2 b3 : Nat} {X X' : World} (h : ShS w Wd b1 b2 b3 X) (hb : Below X.heap.size X X') : ShS w Wd b1 b2 b3 X' :=
  ⟨(hb.block _ h.l1.1).trans h.h1, (hb.block _ h.l1.2.1).trans h.h2, (hb.block _ h.l1.2.2).trans h.h3, by have := h.l1; have := hb.size; omega, h.bel.trans (hb.mono h.bel.size)⟩

theorem ShS.set3 {w Wd : World} {b1 b2 b3 : Nat} {X : World} (h : ShS w Wd b1 b2 b3 X) {b : Nat} (u v s : Value) (o : Nat) (n1 : b ≠ b1) (n2 : b ≠ b2) (n3 : b ≠ b3) (hb : w.heap.size ≤ b) : ShS w Wd b1 b2 b3 (set3 X b o u v s) :=
  ⟨(set3_other _ _ _ _ _ _ _ (fun e => n1 e.symm)).trans h.h1, (set3_other _ _ _ _ _ _ _ (fun e => n2 e.symm)).trans h.h2, (set3_other _ _ _ _ _ _ _ (fun e => n3 e.symm)).trans h.h3, by have := h.l1; simpa using this, set3_below h.bel _ _ _ _ _ hb⟩

theorem vs_size (t : T) : (t.vs.length : Int) ≤ t.size := by
  induction t using T.ind with
  | _ t ih =>
    have h : ∀ (l : List T), (∀ a ∈ l, a ∈ t.args) → (((l.map T.vs).flatten).length : Int) ≤ (l.map T.size).sum := by
      intro l
      induction l with
      | nil => intro _; simp
      | cons a r ihl =>
        intro hm
        have h1 := ih a (hm a (by simp))
        have h2 := ihl (fun b hb => hm b (by simp [hb]))
        simp only [List.map_cons, List.flatten_cons, List.length_append, List.sum_cons]
        omega
    have := h t.args (fun _ h => h)
    rw [T.vs_eq, T.size_eq, List.length_append]
    by_cases h0 : t.fn.size = 0
    · rw [if_pos h0]
      simp only [List.length_cons, List.length_nil]
      omega
    · rw [if_neg h0]
      simp only [List.length_nil]
      omega

theorem wst_len2 (n : Int) (l : List Int) : (wst n l).1.length ≤ l.length + (wst n l).2.toNat := by
  suffices H : ∀ (l : List Int) (s : List Int × Bool) (k : Nat), s.1.length ≤ k + s.2.toNat → (l.foldl (wstep n) s).1.length ≤ k + l.length + (l.foldl (wstep n) s).2.toNat by
    have := H l ([], false) 0 (by simp)
    simpa [wst] using this
  intro l
  induction l with
  | nil => intro s k h; simpa using h
  | cons x r ih =>
    intro s k h
    have := ih (wstep n s x) (k + 1) (by
      obtain ⟨o, b⟩ := s
      unfold wstep
      cases b <;> by_cases h1 : n ≤ x <;> by_cases h2 : x = n <;> simp [h1, h2] at h ⊢ <;> omega)
    simp only [List.foldl_cons, List.length_cons]
    omega

theorem wth_len2 (l : List Int) (n : Int) : (wth l n).length ≤ l.length + 1 := by
  have := wst_len2 n l
  unfold wth
  cases h : (wst n l).2 <;> simp [h] at this ⊢ <;> omega

theorem wths_len2 (m : List Int) : ∀ l, (m.foldl wth l).length ≤ l.length + m.length := by
  induction m with
  | nil => intro l; simp
  | cons n m ih =>
    intro l
    have h1 := ih (wth l n)
    have h2 := wth_len2 l n
    simp only [List.foldl_cons, List.length_cons]
    omega

theorem tvs_len (t : T) : ((tvs t).length : Int) ≤ t.size := by
  have h1 := wths_len2 t.vs []
  have h2 := vs_size t
  unfold tvs
  simp only [List.length_nil, Nat.zero_add] at h1
  omega

theorem wthn_sb {s : List Bd} (hs : Sb s) {t : T} (ht : Rt t) : Sb (wthn s (tvs t)) :=
  ⟨wthn_sub hs.sub (tvs_rise t).1 (by have := tvs_len t; have := ht.size; omega), fun x hx => hs.rt x (wthn_mem hx)⟩

/-- What one side becomes. -/
def A1P (u : T) (X : World) (e : Ending) (X' : World) : Prop :=
  (∃ q a' n' c', e = .returned (.tuple #[tval q (.slice a' n' c'), .int .i64 (fitsW u)]) ∧ (fitsW u = 0 → q = u ∧ n' = u.args.length ∧ ArgsP (fun x => X.heap.size ≤ x) X' (.slice a' n' c') u.args)) ∧ Below X.heap.size X X'

set_option maxRecDepth 100000 in
set_option maxHeartbeats 4000000 in
theorem app1_any (s : List Bd) (hs : Sb s) (Bb : Nat) (t : T) (ht : Rt t) (ht0 : t.rightW = 0) (vs sl : Value) (w : World) (hB : w.cell? ⟨Bb, 0, none⟩ = some vs) (hbd : BindsAt w vs s) (ha : ArgsAt w sl t.args) :
    Calls Tryz.prog 21 #[tval t sl, .pointer (some ⟨Bb, 0, none⟩)] w (A1P (t.app (img s)) w) := by
  obtain ⟨hss, hpl⟩ := short_of t (by have := ht.size; omega)
  have htl := tvs_len t
  have htz := ht.size
  have hl := wthn_sb hs ht
  have hap : t.app (img (wthn s (tvs t))) = t.app (img s) := app_wthn s t
  have hBl := World.block_lt_of_cell? w _ hB
  obtain ⟨sa, sc, rfl, _, _⟩ := ha.slice
  obtain ⟨va, vc, rfl⟩ := hbd.slice
  obtain ⟨q1, q2⟩ := sh_two w t (.slice sa t.args.length sc)
  have hb2 := below_box2 w (tbox t (.slice sa t.args.length sc)) (.cells #[.int .i64 0, .string ⟨#[]⟩, .slice none 0 0] 28)
  obtain ⟨W2, hW2⟩ : ∃ W2, (w.alloc (tbox t (.slice sa t.args.length sc))).alloc (.cells #[.int .i64 0, .string ⟨#[]⟩, .slice none 0 0] 28) = W2 := ⟨_, rfl⟩
  have hsz : W2.heap.size = w.heap.size + 1 + 1 := by rw [← hW2]; simp
  rw [hW2] at q1 q2 hb2
  have hBl' : Bb < w.heap.size := hBl
  have hB2 := kc hb2 hBl hB
  obtain ⟨⟨b0, b1, b2⟩, y0, y1, y2⟩ := box_facts q1
  have hwd : Below w.heap.size w W2.drew := hb2.drew
  have hS0 : ShS w W2.drew Bb w.heap.size w.heap.size W2.drew := ⟨rfl, rfl, rfl, ⟨by show Bb < W2.heap.size; omega, by show w.heap.size < W2.heap.size; omega, by show w.heap.size < W2.heap.size; omega⟩, hwd⟩
  have HS : Hid (∀ X, ShS w W2.drew Bb w.heap.size w.heap.size X → X.cell? ⟨Bb, 0, none⟩ = some (.slice va s.length vc) ∧ X.cell? ⟨w.heap.size, 0, none⟩ = some (.int .i64 t.v) ∧ X.cell? ⟨w.heap.size, 1, none⟩ = some (.string t.fn) ∧ X.cell? ⟨w.heap.size, 2, none⟩ = some (.slice sa t.args.length sc)) := fun X hX => ⟨cell_blk hX.h1 hB2, cell_blk hX.h2 b0, cell_blk hX.h2 b1, cell_blk hX.h2 b2⟩
  have H23 : Hid (∀ X, ShS w W2.drew Bb w.heap.size w.heap.size X → Calls Tryz.prog 23 #[.slice va s.length vc, tval t (.slice sa t.args.length sc)] X fun e w' => ∃ v', e = .returned v' ∧ BindsAt w' v' (wthn s (tvs t)) ∧ Below X.heap.size X w') := fun X hX => within_any s hs.sub t hss hpl (by omega) _ _ X (hbd.keep hX.bel) (ArgsAt.keep hX.bel (Nat.le_refl _) ha)
  have HRB : Hid (∀ X, Below W2.drew.heap.size W2.drew X → X.heap[w.heap.size + 1]? = some (.cells #[.int .i64 0, .string ⟨#[]⟩, .slice none 0 0] 28 (0, 0))) := fun X hX => (hX.block _ (by show _ < W2.heap.size; omega)).trans q2
  have hszd : W2.drew.heap.size = w.heap.size + 1 + 1 := hsz
  obtain ⟨u, hu⟩ : ∃ u, t.app (img s) = u := ⟨_, rfl⟩
  rw [hu] at hap ⊢
  by_cases hfit : fitsW u = 0
  · have H22 : Hid (∀ X v', ShS w W2.drew Bb w.heap.size w.heap.size X → BindsAt X v' (wthn s (tvs t)) → Calls Tryz.prog 22 #[v', tval t (.slice sa t.args.length sc)] X fun e X' => ∃ a9 c9, e = .returned (.tuple #[tval u (.slice a9 u.args.length c9), .int .i64 0]) ∧ ArgsFr X.heap.size X' (.slice a9 u.args.length c9) u.args ∧ Below X.heap.size X X') := fun X v' hX hv => by
      have := apply_ok _ hl t ht ht0 (by rw [hap]; exact hfit) v' (.slice sa t.args.length sc) X hv (ArgsAt.keep hX.bel (Nat.le_refl _) ha)
      rw [hap] at this
      refine this.mono fun e X' ⟨sl', he, hf, hb⟩ => ?_
      obtain ⟨a9, c9, rfl⟩ := hf.slice
      exact ⟨a9, c9, he, hf, hb⟩
    have HFit : Hid (fitsW u = 0) := hfit
    clear hfit hap hl hbd ha hB hB2 q1 q2 hb2 b0 b1 b2 y0 y1 y2 htl hss hpl
    go_enter Tryz.func21, Tryz.ntmps21
    go_wp2
    first | rw [hW2] | skip
    refine wp_region_held_drew (S := ShS w W2.drew Bb w.heap.size w.heap.size) (by kernel_rfl) hS0 (fun hHeld => ?_)
    generalize W2.drew = Wd at *
    refine take_mk 0 (.slice va s.length vc) rfl (by kernel_rfl) (by kernel_rfl) (by kernel_rfl) (fun _ _ _ h => h) (Or.inl ⟨by rfl, fun X hX => by obtain ⟨h0, h1, h2, h3⟩ := HS.out X hX; go_simp⟩) (by assumption) ?_
    try simp only [Act.put, List.setIfInBounds_toArray, List.set_cons_zero, List.set_cons_succ]
    refine take_mk 1 (tval t (.slice sa t.args.length sc)) rfl (by kernel_rfl) (by kernel_rfl) (by kernel_rfl) (fun _ _ _ h => h) (Or.inl ⟨by rfl, fun X hX => by obtain ⟨h0, h1, h2, h3⟩ := HS.out X hX; go_simp⟩) (by assumption) ?_
    try simp only [Act.put, List.setIfInBounds_toArray, List.set_cons_zero, List.set_cons_succ]
    refine take_mk 3 (tval t (.slice sa t.args.length sc)) rfl (by kernel_rfl) (by kernel_rfl) (by kernel_rfl) (fun _ _ _ h => h) (Or.inl ⟨by rfl, fun X hX => by obtain ⟨h0, h1, h2, h3⟩ := HS.out X hX; go_simp⟩) (by assumption) ?_
    try simp only [Act.put, List.setIfInBounds_toArray, List.set_cons_zero, List.set_cons_succ]
    refine wpAnyH_ready (rs := [2]) (by kernel_rfl) (by simp) (AllReadyH.cons (o := ⟨_, _, _, _, _, _⟩) rfl (fun K hK => ?_) AllReadyH.nil)
    rw [if_pos (by rfl)]
    go_simp
    refine (H23.out _ hHeld).mono ?_
    rintro e W7 ⟨v7, rfl, hB7, hb7⟩
    have hS7 := hHeld.bl hb7
    obtain ⟨ra7, rc7, rfl⟩ := hB7.slice
    have h22 := H22.out W7 _ hS7 hB7
    refine hK.out _ _ hS7 (fun _ => ?_)
    clear hK K
    try simp only [Act.put, List.setIfInBounds_toArray, List.set_cons_zero, List.set_cons_succ]
    refine wpAnyH_ready (rs := [4]) (by kernel_rfl) (by simp) (AllReadyH.cons (o := ⟨_, _, _, _, _, _⟩) rfl (fun K hK => ?_) AllReadyH.nil)
    rw [if_pos (by rfl)]
    go_simp
    refine h22.mono ?_
    rintro e W9 ⟨a9, c9, rfl, hf9, hb9⟩
    have hb79 : Below Wd.heap.size Wd W9 := hb7.trans (hb9.mono hb7.size)
    have hS9 := hS7.bl hb9
    have hrb9 := HRB.out W9 hb79
    obtain ⟨⟨d0, d1, d2⟩, z0, z1, z2⟩ := box_facts hrb9
    refine hK.out _ _ hS9 (fun _ => ?_)
    clear hK K
    try simp only [Act.put, List.setIfInBounds_toArray, List.set_cons_zero, List.set_cons_succ]
    refine take_mk 5 (tval u (.slice a9 u.args.length c9)) rfl (by kernel_rfl) (by kernel_rfl) (by kernel_rfl) (fun _ _ _ h => h) (Or.inl ⟨by rfl, fun X hX => by go_simp⟩) (by assumption) ?_
    try simp only [Act.put, List.setIfInBounds_toArray, List.set_cons_zero, List.set_cons_succ]
    refine take_mk 6 (.int .i64 0) rfl (by kernel_rfl) (by kernel_rfl) (by kernel_rfl) (fun _ _ _ h => h) (Or.inl ⟨by rfl, fun X hX => by go_simp⟩) (by assumption) ?_
    try simp only [Act.put, List.setIfInBounds_toArray, List.set_cons_zero, List.set_cons_succ]
    refine wpAnyH_ready (rs := [7]) (by kernel_rfl) (by simp) (AllReadyH.cons (o := ⟨_, _, _, _, _, _⟩) rfl (fun K hK => ?_) AllReadyH.nil)
    rw [if_pos (by rfl)]
    go_simp
    refine hK.out _ _ (hS9.set3 _ _ _ _ (by omega) (by omega) (by omega) (by omega)) (fun _ => ?_)
    clear hK K
    try simp only [Act.put, List.setIfInBounds_toArray, List.set_cons_zero, List.set_cons_succ]
    refine take_mk 8 (.int .i64 0) rfl (by kernel_rfl) (by kernel_rfl) (by kernel_rfl) (fun _ _ _ h => h) (Or.inl ⟨by rfl, fun X hX => by go_simp⟩) (by assumption) ?_
    try simp only [Act.put, List.setIfInBounds_toArray, List.set_cons_zero, List.set_cons_succ]
    refine wpAnyH_done (by kernel_rfl) ?_ _
    go_wp2
    refine bodyPost_ret (v := .tuple #[tval u (.slice a9 u.args.length c9), .int .i64 0]) (by simp [results, Tryz.results21, go_sem, *]) rfl ⟨⟨u, a9, u.args.length, c9, by rw [HFit.out], fun _ => ⟨rfl, rfl, ?_⟩⟩, set3_below hS9.bel _ 0 _ _ _ (Nat.le_succ _)⟩
    have h8 := hb7.size
    exact (frP hf9).keep (by simp) (fun k hk hlt => ⟨by omega, set3_other _ _ _ _ _ _ k (by omega)⟩)
  · have H22 : Hid (∀ X v', ShS w W2.drew Bb w.heap.size w.heap.size X → BindsAt X v' (wthn s (tvs t)) → Calls Tryz.prog 22 #[v', tval t (.slice sa t.args.length sc)] X fun e X' => e = .returned (.tuple #[tval zt (.slice none 0 0), .int .i64 (fitsW u)]) ∧ Below X.heap.size X X') := fun X v' hX hv => by
      have := apply_big _ hl t ht ht0 (by rw [hap]; exact hfit) v' (.slice sa t.args.length sc) X hv (ArgsAt.keep hX.bel (Nat.le_refl _) ha)
      rwa [hap] at this
    have HFit : Hid (¬ fitsW u = 0) := hfit
    clear hfit hap hl hbd ha hB hB2 q1 q2 hb2 b0 b1 b2 y0 y1 y2 htl hss hpl
    obtain ⟨E, hEE⟩ : ∃ E, fitsW u = E := ⟨_, rfl⟩
    have HE : Hid (fitsW u = E) := hEE
    rw [hEE] at H22 HFit
    clear hEE
    go_enter Tryz.func21, Tryz.ntmps21
    go_wp2
    first | rw [hW2] | skip
    refine wp_region_held_drew (S := ShS w W2.drew Bb w.heap.size w.heap.size) (by kernel_rfl) hS0 (fun hHeld => ?_)
    generalize W2.drew = Wd at *
    refine take_mk 0 (.slice va s.length vc) rfl (by kernel_rfl) (by kernel_rfl) (by kernel_rfl) (fun _ _ _ h => h) (Or.inl ⟨by rfl, fun X hX => by obtain ⟨h0, h1, h2, h3⟩ := HS.out X hX; go_simp⟩) (by assumption) ?_
    try simp only [Act.put, List.setIfInBounds_toArray, List.set_cons_zero, List.set_cons_succ]
    refine take_mk 1 (tval t (.slice sa t.args.length sc)) rfl (by kernel_rfl) (by kernel_rfl) (by kernel_rfl) (fun _ _ _ h => h) (Or.inl ⟨by rfl, fun X hX => by obtain ⟨h0, h1, h2, h3⟩ := HS.out X hX; go_simp⟩) (by assumption) ?_
    try simp only [Act.put, List.setIfInBounds_toArray, List.set_cons_zero, List.set_cons_succ]
    refine take_mk 3 (tval t (.slice sa t.args.length sc)) rfl (by kernel_rfl) (by kernel_rfl) (by kernel_rfl) (fun _ _ _ h => h) (Or.inl ⟨by rfl, fun X hX => by obtain ⟨h0, h1, h2, h3⟩ := HS.out X hX; go_simp⟩) (by assumption) ?_
    try simp only [Act.put, List.setIfInBounds_toArray, List.set_cons_zero, List.set_cons_succ]
    refine wpAnyH_ready (rs := [2]) (by kernel_rfl) (by simp) (AllReadyH.cons (o := ⟨_, _, _, _, _, _⟩) rfl (fun K hK => ?_) AllReadyH.nil)
    rw [if_pos (by rfl)]
    go_simp
    refine (H23.out _ hHeld).mono ?_
    rintro e W7 ⟨v7, rfl, hB7, hb7⟩
    have hS7 := hHeld.bl hb7
    obtain ⟨ra7, rc7, rfl⟩ := hB7.slice
    have h22 := H22.out W7 _ hS7 hB7
    refine hK.out _ _ hS7 (fun _ => ?_)
    clear hK K
    try simp only [Act.put, List.setIfInBounds_toArray, List.set_cons_zero, List.set_cons_succ]
    refine wpAnyH_ready (rs := [4]) (by kernel_rfl) (by simp) (AllReadyH.cons (o := ⟨_, _, _, _, _, _⟩) rfl (fun K hK => ?_) AllReadyH.nil)
    rw [if_pos (by rfl)]
    go_simp
    refine h22.mono ?_
    rintro e W9 ⟨rfl, hb9⟩
    have hb79 : Below Wd.heap.size Wd W9 := hb7.trans (hb9.mono hb7.size)
    have hS9 := hS7.bl hb9
    have hrb9 := HRB.out W9 hb79
    obtain ⟨⟨d0, d1, d2⟩, z0, z1, z2⟩ := box_facts hrb9
    refine hK.out _ _ hS9 (fun _ => ?_)
    clear hK K
    try simp only [Act.put, List.setIfInBounds_toArray, List.set_cons_zero, List.set_cons_succ]
    refine take_mk 5 (tval zt (.slice none 0 0)) rfl (by kernel_rfl) (by kernel_rfl) (by kernel_rfl) (fun _ _ _ h => h) (Or.inl ⟨by rfl, fun X hX => by go_simp⟩) (by assumption) ?_
    try simp only [Act.put, List.setIfInBounds_toArray, List.set_cons_zero, List.set_cons_succ]
    refine take_mk 6 (.int .i64 E) rfl (by kernel_rfl) (by kernel_rfl) (by kernel_rfl) (fun _ _ _ h => h) (Or.inl ⟨by rfl, fun X hX => by go_simp⟩) (by assumption) ?_
    try simp only [Act.put, List.setIfInBounds_toArray, List.set_cons_zero, List.set_cons_succ]
    refine wpAnyH_ready (rs := [7]) (by kernel_rfl) (by simp) (AllReadyH.cons (o := ⟨_, _, _, _, _, _⟩) rfl (fun K hK => ?_) AllReadyH.nil)
    rw [if_pos (by rfl)]
    go_simp
    refine hK.out _ _ (hS9.set3 _ _ _ _ (by omega) (by omega) (by omega) (by omega)) (fun _ => ?_)
    clear hK K
    try simp only [Act.put, List.setIfInBounds_toArray, List.set_cons_zero, List.set_cons_succ]
    refine take_mk 8 (.int .i64 E) rfl (by kernel_rfl) (by kernel_rfl) (by kernel_rfl) (fun _ _ _ h => h) (Or.inl ⟨by rfl, fun X hX => by go_simp⟩) (by assumption) ?_
    try simp only [Act.put, List.setIfInBounds_toArray, List.set_cons_zero, List.set_cons_succ]
    refine wpAnyH_done (by kernel_rfl) ?_ _
    go_wp2
    refine bodyPost_ret (v := .tuple #[tval zt (.slice none 0 0), .int .i64 E]) (by simp [results, Tryz.results21, go_sem, *]) rfl ⟨⟨zt, none, 0, 0, by rw [HE.out], fun h => absurd (HE.out.symm.trans h) HFit.out⟩, set3_below hS9.bel _ 0 _ _ _ (Nat.le_succ _)⟩

end Go.Proofs.YtgnjgpplelakkaaGreat

/-
  lits.Apply; the document's Apply at a clause.
-/
namespace Go.Proofs.YtgnjgpplelakkaaGreat
open Go.RowKit Go.Maps

theorem cright_sides {l : List Lt} (h : crightW l = 0) : ∀ x ∈ l, x.l.rightW = 0 ∧ x.r.rightW = 0 := by
  have hf : fe (sidesOf l) = 0 := by
    unfold crightW at h
    split at h
    · omega
    · split at h
      · rename_i h2
        exact absurd h h2
      · rename_i h2
        simpa using h2
  intro x hx
  exact ⟨fe_zero.1 hf _ (List.mem_flatMap.2 ⟨x, hx, by simp⟩), fe_zero.1 hf _ (List.mem_flatMap.2 ⟨x, hx, by simp⟩)⟩

/-- The clause that would come. -/
noncomputable def apD (s : List Bd) (l : List Lt) : List Lt := l.map (appL (img s))
/-- The error. -/
noncomputable def apE (s : List Bd) (l : List Lt) : Int := if isSub s = false ∨ crightW l ≠ 0 then 1 else crightW (apD s l)

/-- What Apply tells. -/
def ApP (E : Int) (D : List Lt) (w : World) (e : Ending) (W' : World) : Prop := ∃ v', e = .returned (.tuple #[v', .int .i64 E]) ∧ ClauseAt W' v' (if E = 0 then D else []) ∧ Below w.heap.size w W'

theorem clause_nil (W : World) : ClauseAt W (.slice none 0 0) [] := ⟨none, 0, rfl, Nat.le_refl _, by decide, fun h => absurd h (by simp)⟩

theorem ApP.no {E : Int} {D : List Lt} {w : World} {W' : World} (hE : E ≠ 0) (hb : Below w.heap.size w W') : ApP E D w (.returned (.tuple #[.slice none 0 0, .int .i64 E])) W' :=
  ⟨_, rfl, by rw [if_neg hE]; exact clause_nil _, hb⟩

set_option maxRecDepth 100000 in
set_option maxHeartbeats 2000000 in
theorem rcapply_any (s : List Bd) (l : List Lt) (vs v : Value) (w : World) (hb : BindsAt w vs s) (hc : ClauseAt w v l) (hlen : l.length ≤ 1048576) :
    Calls Tryz.prog 8 #[vs, v] w (ApP (apE s l) (apD s l) w) := by
  have h24 := ris_any s vs w hb
  obtain ⟨sa, sc, rfl⟩ := hb.slice
  obtain ⟨a, c, rfl⟩ := hc.slice
  have HC : Hid (ClauseAt w (.slice a l.length c) l) := hc
  have HB : Hid (BindsAt w (.slice sa s.length sc) s) := hb
  clear hc hb
  cases hs : isSub s
  · have HE : Hid (apE s l = 1) := by show apE s l = 1; unfold apE; rw [if_pos (.inl hs)]
    rw [hs] at h24
    rw [HE.out]
    clear hs
    go_enter Tryz.func8, Tryz.ntmps8
    go_wp2_with fail
    refine h24.mono ?_
    rintro e W1 ⟨rfl, hb1⟩
    go_wp2
    go_ret2
    exact ApP.no (by decide) hb1
  · rw [hs] at h24
    by_cases hr : crightW l = 0
    · have hsd := cright_sides hr
      have hshp : Shaped l := fun x hx => ⟨right_shape (hsd x hx).1, right_shape (hsd x hx).2⟩
      have HE : Hid (apE s l = crightW (apD s l)) := by show _ = _; unfold apE; rw [if_neg (by rw [hs, hr]; simp)]
      rw [HE.out]
      have HR : Hid (crightW l = 0) := hr
      clear hs hr hsd
      go_enter Tryz.func8, Tryz.ntmps8
      go_wp2_with fail
      refine h24.mono ?_
      rintro e W1 ⟨rfl, hb1⟩
      have h25 := rcright_any l _ W1 (HC.out.keep hb1)
      rw [HR.out] at h25
      have HB1 : Hid (Below w.heap.size w W1) := hb1
      clear h24 hb1
      go_wp2_with fail
      refine h25.mono ?_
      rintro e W2 ⟨rfl, hb2⟩
      have HB2 : Hid (Below w.heap.size w W2) := HB1.out.trans (hb2.mono HB1.out.size)
      have h26 := cput_any s l _ _ W2 (HB.out.keep HB2.out) (HC.out.keep HB2.out) hshp hlen
      clear h25 hb2
      go_wp2_with fail
      refine h26.mono ?_
      rintro e W3 ⟨v3, rfl, hc3, hb3⟩
      have hc3' : ClauseAt W3 v3 (apD s l) := hc3
      have HB3 : Hid (Below w.heap.size w W3) := HB2.out.trans (hb3.mono HB2.out.size)
      have h25 := rcright_any (apD s l) v3 W3 hc3'
      obtain ⟨a3, c3, rfl⟩ := hc3'.slice
      have HC3 : Hid (ClauseAt W3 (.slice a3 (apD s l).length c3) (apD s l)) := hc3'
      clear h26 hb3 hc3 hc3'
      generalize crightW (apD s l) = E at *
      go_wp2_with fail
      refine h25.mono ?_
      rintro e W4 ⟨rfl, hb4⟩
      have HB4 : Hid (Below w.heap.size w W4) := HB3.out.trans (hb4.mono HB3.out.size)
      have HC4 : Hid (ClauseAt W4 (.slice a3 (apD s l).length c3) (apD s l)) := HC3.out.keep hb4
      clear h25 hb4
      by_cases hE : E = 0
      · have hEb : (E != 0) = false := by rw [bne_eq_false_iff_eq]; exact hE
        have HEE : Hid (E = 0) := hE
        clear hE
        go_wp2
        go_ret2
        rw [HEE.out]
        exact ⟨_, rfl, by rw [if_pos rfl]; exact HC4.out, HB4.out⟩
      · have hEb : (E != 0) = true := by rw [bne_iff_ne]; exact hE
        have HEE : Hid (¬ E = 0) := hE
        clear hE
        go_wp2
        go_ret2
        exact ApP.no HEE.out HB4.out
    · have HE : Hid (apE s l = 1) := by show apE s l = 1; unfold apE; rw [if_pos (.inr hr)]
      rw [HE.out]
      have hkb : (crightW l != 0) = true := by rw [bne_iff_ne]; exact hr
      clear hs hr
      go_enter Tryz.func8, Tryz.ntmps8
      go_wp2_with fail
      refine h24.mono ?_
      rintro e W1 ⟨rfl, hb1⟩
      have h25 := rcright_any l _ W1 (HC.out.keep hb1)
      generalize crightW l = k at *
      go_wp2_with fail
      refine h25.mono ?_
      rintro e W2 ⟨rfl, hb2⟩
      go_wp2
      go_ret2
      exact ApP.no (by decide) (hb1.trans (hb2.mono hb1.size))

end Go.Proofs.YtgnjgpplelakkaaGreat

/-
  lits.Apply.
-/
namespace Go.Proofs.YtgnjgpplelakkaaGreat
open Go.RowKit Go.Maps

theorem eg21 : ∀ args w, (callFunc 21 args).run Tryz.prog w = .ok (.enter 21 args) w := enters_of Tryz.func21 (by kernel_rfl) rfl

/-- The error of one side. -/
def erA (s : List Bd) (l : List Lt) (k : Nat) : Int := match l[k / 2]? with
  | some x => if k % 2 = 0 then fitsW (x.l.app (img s)) else fitsW (x.r.app (img s))
  | none => 0
theorem erA_even (s : List Bd) (l : List Lt) (i : Nat) (h : i < l.length) : erA s l (2 * i) = fitsW (l[i].l.app (img s)) := by
  unfold erA
  rw [show 2 * i / 2 = i by omega, List.getElem?_eq_getElem h]
  simp only
  rw [if_pos (by omega)]
theorem erA_odd (s : List Bd) (l : List Lt) (i : Nat) (h : i < l.length) : erA s l (2 * i + 1) = fitsW (l[i].r.app (img s)) := by
  unfold erA
  rw [show (2 * i + 1) / 2 = i by omega, List.getElem?_eq_getElem h]
  simp only
  rw [if_neg (by omega)]
/-- A literal that would come. -/
def apAt (s : List Bd) (l : List Lt) (i : Nat) : Lt := match l[i]? with
  | some x => appL (img s) x
  | none => ⟨false, zt, zt⟩
theorem apAt_lt (s : List Bd) (l : List Lt) (i : Nat) (h : i < l.length) : apAt s l i = appL (img s) l[i] := by
  unfold apAt
  rw [List.getElem?_eq_getElem h]
theorem apAt_map (s : List Bd) (l : List Lt) : (List.range l.length).map (apAt s l) = apD s l := by
  refine List.ext_getElem (by simp [apD]) fun i h1 h2 => ?_
  have hi : i < l.length := by simpa using h1
  simp only [List.getElem_map, List.getElem_range, apD]
  exact apAt_lt s l i hi

/-- What holds of what would come. -/
structure Wll (s : List Bd) (l : List Lt) : Prop where
  sb : Sb s
  rt : ∀ x ∈ l, Rt x.l ∧ Rt x.r
  r0 : ∀ x ∈ l, x.l.rightW = 0 ∧ x.r.rightW = 0
  l60 : l.length ≤ 60

theorem Wll.each {s : List Bd} {l : List Lt} (h : Wll s l) {t : T} (ht : Rt t) : (t.app (img s)).rightW = fitsW (t.app (img s)) := by
  refine right_fits (app_shape _ (fun n h0 h1 => img_shape h.sb.sub n h0 h1) t ht.shape) ?_
  have h1 := app_size (img s) (fun n => img_size s h.sb.rt n) t
  have h2 := ht.size
  omega

/-- The first error is Right's. -/
theorem Wll.first {s : List Bd} {l : List Lt} (h : Wll s l) {k : Nat} (hk : k < 2 * l.length) (hne : erA s l k ≠ 0) (hall : ∀ j, j < k → erA s l j = 0) : crightW (apD s l) = erA s l k := by
  have hi : k / 2 < l.length := by omega
  have hD : k / 2 < (apD s l).length := by simpa [apD] using hi
  have eD : ∀ j (hj : j < (apD s l).length), (apD s l)[j] = appL (img s) (l[j]'(by simpa [apD] using hj)) := fun j hj => by simp [apD]
  have rl : ∀ j (hj : j < l.length), (l[j].l.app (img s)).rightW = erA s l (2 * j) := fun j hj => by rw [erA_even s l j hj]; exact h.each (h.rt _ (List.getElem_mem hj)).1
  have rr : ∀ j (hj : j < l.length), (l[j].r.app (img s)).rightW = erA s l (2 * j + 1) := fun j hj => by rw [erA_odd s l j hj]; exact h.each (h.rt _ (List.getElem_mem hj)).2
  obtain ⟨f1, f2⟩ := fe_first (apD s l) (k / 2) hD (fun j hj hlt => by
    have hj' : j < l.length := by simpa [apD] using hj
    rw [eD j hj]
    exact ⟨(rl j hj').trans (hall _ (by omega)), (rr j hj').trans (hall _ (by omega))⟩)
  rw [eD _ hD] at f1 f2
  have hfe : fe (sidesOf (apD s l)) = erA s l k := by
    by_cases hp : k % 2 = 0
    · have e : 2 * (k / 2) = k := by omega
      have := (rl _ hi).trans (congrArg _ e)
      rw [← this] at hne ⊢
      exact f1 hne
    · have e : 2 * (k / 2) + 1 = k := by omega
      have h0 : (l[k / 2].l.app (img s)).rightW = 0 := (rl _ hi).trans (hall _ (by omega))
      have := (rr _ hi).trans (congrArg _ e)
      rw [← this] at hne ⊢
      exact f2 h0 hne
  unfold crightW
  rw [if_neg (by have := h.l60; simp [apD]; omega), hfe, if_pos hne]

theorem wll_short {s : List Bd} {l : List Lt} (hall : ∀ k, k < 2 * l.length → erA s l k = 0) : ∀ t ∈ sidesOf (apD s l), Short t := by
  intro t ht
  obtain ⟨y, hy, hty⟩ := List.mem_flatMap.1 ht
  obtain ⟨x, hx, rfl⟩ := List.mem_map.1 hy
  obtain ⟨i, hi, rfl⟩ := List.getElem_of_mem hx
  have e1 := hall (2 * i) (by omega)
  have e2 := hall (2 * i + 1) (by omega)
  rw [erA_even s l i hi] at e1
  rw [erA_odd s l i hi] at e2
  have fit : ∀ u : T, fitsW u = 0 → u.size ≤ 1048576 := fun u hu => by
    unfold fitsW at hu
    split at hu
    · omega
    · split at hu <;> omega
  have : t = l[i].l.app (img s) ∨ t = l[i].r.app (img s) := by simpa [appL] using hty
  rcases this with rfl | rfl
  · exact (short_of _ (fit _ e1)).1
  · exact (short_of _ (fit _ e2)).1

set_option maxRecDepth 100000 in
set_option maxHeartbeats 4000000 in
theorem capply_ok (s : List Bd) (l : List Lt) (hw : Wll s l) (hr : crightW l = 0) (vs v : Value) (w : World) (hbd : BindsAt w vs s) (hc : ClauseAt w v l) :
    Calls Tryz.prog 7 #[vs, v] w (ApP (crightW (apD s l)) (apD s l) w) := by
  obtain ⟨sa, sc, rfl⟩ := hbd.slice
  have hb1 := below_box w (.cells #[.slice sa s.length sc] 22)
  have hq1 := (Boxed.new w 22 (.slice sa s.length sc)).cell
  have hlen : l.length ≤ 1048576 := by have := hw.l60; omega
  have hshort : ∀ t ∈ sidesOf l, Short t := fun t ht => by
    obtain ⟨x, hx, hty⟩ := List.mem_flatMap.1 ht
    have : t = x.l ∨ t = x.r := by simpa using hty
    rcases this with rfl | rfl
    · exact (hw.rt x hx).1.short
    · exact (hw.rt x hx).2.short
  have h18 := sright_any s (.slice sa s.length sc) (w.alloc (.cells #[.slice sa s.length sc] 22)) (hbd.keep hb1) (fun x hx => (hw.sb.rt x hx).short)
  rw [subW_t (isSub_iff.2 hw.sb.sub)] at h18
  have h19 : ∀ X, Below w.heap.size w X → Calls Tryz.prog 19 #[v] X fun e w' => e = .returned (.int .i64 0) ∧ Below X.heap.size X w' := fun X hX => by
    have := lright_any l v X (hc.keep hX) hshort
    rwa [hr] at this
  have hreb : ∀ W1, Below (w.alloc (.cells #[.slice sa s.length sc] 22)).heap.size (w.alloc (.cells #[.slice sa s.length sc] 22)) W1 → Calls Tryz.prog 20 #[v, .func (.func 21) #[] #[.pointer (some ⟨w.heap.size, 0, none⟩)]] W1 fun e W' => ((∃ a' c', e = .returned (.tuple #[.slice a' l.length c', .int .i64 0]) ∧ ClauseAt W' (.slice a' l.length c') (apD s l) ∧ ∀ k, k < 2 * l.length → erA s l k = 0) ∨ (∃ E, E ≠ 0 ∧ e = .returned (.tuple #[.slice none 0 0, .int .i64 E]) ∧ crightW (apD s l) = E)) ∧ Below w.heap.size w W' := by
    intro W1 hW1
    have hw1 : Below w.heap.size w W1 := hb1.trans (hW1.mono hb1.size)
    have hJ1 := kc hW1 (by simp) hq1
    refine (rebuilt_any 21 #[.pointer (some ⟨w.heap.size, 0, none⟩)] eg21 [] (fun _ X => X.cell? ⟨w.heap.size, 0, none⟩ = some (.slice sa s.length sc)) w l (apAt s l) (erA s l) v W1 hw1 hc hlen (by simp) hJ1 ?_ ?_ ?_ ?_).mono ?_
    · intro k X X' hJ h1 h2 h3
      have hlt : w.heap.size < W1.heap.size := by have := hW1.size; simp at this; omega
      rw [← hJ]
      simp [World.cell?, h3 w.heap.size hlt]
    · intro i hi t X hJ hX hM ha
      refine (app1_any s hw.sb w.heap.size l[i].l (hw.rt _ (List.getElem_mem hi)).1 (hw.r0 _ (List.getElem_mem hi)).1 _ t X hJ (hbd.keep hX) (ArgsAt.keep hX (Nat.le_refl _) ha)).mono ?_
      rintro e X' ⟨⟨q, a', n', c', rfl, hq⟩, hb⟩
      rw [erA_even s l i hi, apAt_lt s l i hi]
      exact ⟨q, a', n', c', rfl, fun h0 => by obtain ⟨h1, h2, h3⟩ := hq h0; exact ⟨h1, h2, h3, kc hb (World.block_lt_of_cell? X _ hJ) hJ⟩, Only.of_below hb⟩
    · intro i hi t X hJ hX hM ha
      refine (app1_any s hw.sb w.heap.size l[i].r (hw.rt _ (List.getElem_mem hi)).2 (hw.r0 _ (List.getElem_mem hi)).2 _ t X hJ (hbd.keep hX) (ArgsAt.keep hX (Nat.le_refl _) ha)).mono ?_
      rintro e X' ⟨⟨q, a', n', c', rfl, hq⟩, hb⟩
      rw [erA_odd s l i hi, apAt_lt s l i hi]
      exact ⟨q, a', n', c', rfl, fun h0 => by obtain ⟨h1, h2, h3⟩ := hq h0; exact ⟨h1, h2, h3, kc hb (World.block_lt_of_cell? X _ hJ) hJ⟩, Only.of_below hb⟩
    · intro i hi
      rw [apAt_lt s l i hi]
      rfl
    · rintro e W' ⟨h, hO⟩
      have hbW : Below w.heap.size w W' := hw1.trans (hO.below hw1.size (by simp))
      rcases h with ⟨v', rfl, hcl, _, her⟩ | ⟨k, hk, hne, hall, rfl⟩
      · rw [apAt_map] at hcl
        obtain ⟨a', c', hv⟩ := hcl.slice
        have hl2 : (apD s l).length = l.length := by simp [apD]
        rw [hl2] at hv
        subst hv
        exact ⟨.inl ⟨a', c', rfl, hcl, her⟩, hbW⟩
      · exact ⟨.inr ⟨_, hne, rfl, hw.first hk hne hall⟩, hbW⟩
  obtain ⟨a, c, rfl⟩ := hc.slice
  have HSH : Hid ((∀ k, k < 2 * l.length → erA s l k = 0) → ∀ t ∈ sidesOf (apD s l), Short t) := wll_short
  have HR : Hid (∀ W1, Below (w.alloc (.cells #[.slice sa s.length sc] 22)).heap.size (w.alloc (.cells #[.slice sa s.length sc] 22)) W1 → Calls Tryz.prog 20 #[.slice a l.length c, .func (.func 21) #[] #[.pointer (some ⟨w.heap.size, 0, none⟩)]] W1 fun e W' => ((∃ a' c', e = .returned (.tuple #[.slice a' l.length c', .int .i64 0]) ∧ ClauseAt W' (.slice a' l.length c') (apD s l) ∧ ∀ k, k < 2 * l.length → erA s l k = 0) ∨ (∃ E, E ≠ 0 ∧ e = .returned (.tuple #[.slice none 0 0, .int .i64 E]) ∧ crightW (apD s l) = E)) ∧ Below w.heap.size w W') := hreb
  have HB1 : Hid (Below w.heap.size w (w.alloc (.cells #[.slice sa s.length sc] 22))) := hb1
  have H19 : Hid (∀ X, Below w.heap.size w X → Calls Tryz.prog 19 #[.slice a l.length c] X fun e w' => e = .returned (.int .i64 0) ∧ Below X.heap.size X w') := h19
  clear hreb hshort hc hr hlen hw hbd h19 hb1
  have hmf : ∀ (fn : Fn) (first cap : Array Value) (w : World), (Instr.makeFunc fn first cap).run Tryz.prog w = .ok (.func fn first cap) w := fun _ _ _ _ => rfl
  go_enter Tryz.func7, Tryz.ntmps7
  go_wp2_with fail
  refine h18.mono ?_
  rintro e W1 ⟨rfl, hb1⟩
  have h19 := H19.out W1 (HB1.out.trans (hb1.mono HB1.out.size))
  have HW1 : Hid (Below (w.alloc (.cells #[.slice sa s.length sc] 22)).heap.size (w.alloc (.cells #[.slice sa s.length sc] 22)) W1) := hb1
  clear h18 hb1
  go_wp2_with fail
  refine h19.mono ?_
  rintro e W2 ⟨rfl, hb2⟩
  have h20 := HR.out W2 (HW1.out.trans (hb2.mono HW1.out.size))
  clear h19 hb2
  go_wp2_with fail
  refine h20.mono ?_
  rintro e W3 ⟨h, hb3⟩
  have HB3 : Hid (Below w.heap.size w W3) := hb3
  clear h20 hb3
  rcases h with ⟨a', c', rfl, hcl, her⟩ | ⟨E, hE, rfl, hEE⟩
  · have h19 := lright_any (apD s l) _ W3 hcl (HSH.out her)
    have HC3 : Hid (ClauseAt W3 (.slice a' l.length c') (apD s l)) := hcl
    clear hcl her
    generalize crightW (apD s l) = E at *
    go_wp2_with fail
    refine h19.mono ?_
    rintro e W4 ⟨rfl, hb4⟩
    have HB4 : Hid (Below w.heap.size w W4) := HB3.out.trans (hb4.mono HB3.out.size)
    have HC4 : Hid (ClauseAt W4 (.slice a' l.length c') (apD s l)) := HC3.out.keep hb4
    clear h19 hb4
    by_cases hE : E = 0
    · have hEb : (E != 0) = false := by rw [bne_eq_false_iff_eq]; exact hE
      have HEE : Hid (E = 0) := hE
      clear hE
      go_wp2
      go_ret2
      rw [HEE.out]
      exact ⟨_, rfl, by rw [if_pos rfl]; exact HC4.out, HB4.out⟩
    · have hEb : (E != 0) = true := by rw [bne_iff_ne]; exact hE
      have HEE : Hid (¬ E = 0) := hE
      clear hE
      go_wp2
      go_ret2
      exact ApP.no HEE.out HB4.out
  · have HX : Hid (crightW (apD s l) = E) := hEE
    have hEb : (E != 0) = true := by rw [bne_iff_ne]; exact hE
    have hEe : (E == 0) = false := by rw [beq_eq_false_iff_ne]; exact hE
    have HEE : Hid (¬ E = 0) := hE
    clear hE hEE
    go_wp2
    go_ret2
    rw [HX.out]
    exact ApP.no HEE.out HB3.out

end Go.Proofs.YtgnjgpplelakkaaGreat

/-
  Shift at a clause: lits.Shift and the document's, right or not.
-/
namespace Go.Proofs.YtgnjgpplelakkaaGreat
open Go.RowKit Go.Maps

theorem erK_one {by_ : Int} {l : List Lt} {k : Nat} (h : erK by_ l k ≠ 0) : erK by_ l k = 1 := by
  unfold erK at *
  split
  · rename_i x hx
    rw [hx] at h
    simp only at h ⊢
    split
    · rename_i h2
      rw [if_pos h2] at h
      unfold erS at *
      split
      · rename_i h3; rw [if_pos h3] at h; exact absurd rfl h
      · rfl
    · rename_i h2
      rw [if_neg h2] at h
      unfold erS at *
      split
      · rename_i h3; rw [if_pos h3] at h; exact absurd rfl h
      · rfl
  · rename_i hx
    rw [hx] at h
    exact absurd rfl h

set_option maxRecDepth 100000 in
set_option maxHeartbeats 2000000 in
theorem lshift2_any (l : List Lt) (by_ : Int) (v : Value) (w : World) (hc : ClauseAt w v l) (hsz : csize l ≤ 1048576) (hshort : ∀ t ∈ sidesOf l, Short t) (hr : crightW l = 0) (hside : ∀ i (h : i < l.length), (l[i].l.shape = true ∧ l[i].l.rightW = 0 ∧ Short l[i].l) ∧ (l[i].r.shape = true ∧ l[i].r.rightW = 0 ∧ Short l[i].r)) :
    Calls Tryz.prog 9 #[v, .int .i64 by_] w fun e W' => ((∃ a' c', e = .returned (.tuple #[.slice a' l.length c', .int .i64 0]) ∧ ClauseAt W' (.slice a' l.length c') (l.map (shL by_)) ∧ ∀ x ∈ l, fineT by_ x.l = true ∧ fineT by_ x.r = true) ∨ (∃ E, E = 1 ∧ e = .returned (.tuple #[.slice none 0 0, .int .i64 E]) ∧ ¬ ∀ x ∈ l, fineT by_ x.l = true ∧ fineT by_ x.r = true)) ∧ Below w.heap.size w W' := by
  have hlen : l.length ≤ 1048576 := by have := csize_len l; omega
  have hb1 := below_box w (.cells #[.int .i64 by_] 3)
  have hq1 := (Boxed.new w 3 (.int .i64 by_)).cell
  have hrt := lright_any l v _ (hc.keep hb1) hshort
  rw [hr] at hrt
  have hreb : ∀ W1, Below (w.alloc (.cells #[.int .i64 by_] 3)).heap.size (w.alloc (.cells #[.int .i64 by_] 3)) W1 → Calls Tryz.prog 20 #[v, .func (.func 27) #[] #[.pointer (some ⟨w.heap.size, 0, none⟩)]] W1 fun e W' => ((∃ a' c', e = .returned (.tuple #[.slice a' l.length c', .int .i64 0]) ∧ ClauseAt W' (.slice a' l.length c') (l.map (shL by_)) ∧ ∀ x ∈ l, fineT by_ x.l = true ∧ fineT by_ x.r = true) ∨ (∃ E, E = 1 ∧ e = .returned (.tuple #[.slice none 0 0, .int .i64 E]) ∧ ¬ ∀ x ∈ l, fineT by_ x.l = true ∧ fineT by_ x.r = true)) ∧ Below w.heap.size w W' := by
    intro W1 hW1
    have hw1 : Below w.heap.size w W1 := hb1.trans (hW1.mono hb1.size)
    have hJ1 := kc hW1 (by simp) hq1
    refine (rebuilt_any 27 #[.pointer (some ⟨w.heap.size, 0, none⟩)] eg66 [] (fun _ X => X.cell? ⟨w.heap.size, 0, none⟩ = some (.int .i64 by_)) w l (shAt by_ l) (erK by_ l) v W1 hw1 hc hlen (by simp) hJ1 ?_ ?_ ?_ ?_).mono ?_
    · intro k X X' hJ h1 h2 h3
      have hlt : w.heap.size < W1.heap.size := by have := hW1.size; simp at this; omega
      rw [← hJ]
      simp [World.cell?, h3 w.heap.size hlt]
    · intro i hi s X hJ hX hM ha
      obtain ⟨⟨g1, g2, g3⟩, _⟩ := hside i hi
      refine (shift1_any by_ w.heap.size l[i].l g1 g3 g2 s X hJ (ArgsAt.keep hX (Nat.le_refl _) ha)).mono ?_
      rintro e X' ⟨⟨q, a', n', c', rfl, hq⟩, hb⟩
      rw [erK_even by_ l i hi, shAt_lt by_ l i hi]
      exact ⟨q, a', n', c', rfl, fun h0 => by obtain ⟨h1, h2, h3⟩ := hq h0; exact ⟨h1, h2, h3, kc hb (World.block_lt_of_cell? X _ hJ) hJ⟩, Only.of_below hb⟩
    · intro i hi s X hJ hX hM ha
      obtain ⟨_, g1, g2, g3⟩ := hside i hi
      refine (shift1_any by_ w.heap.size l[i].r g1 g3 g2 s X hJ (ArgsAt.keep hX (Nat.le_refl _) ha)).mono ?_
      rintro e X' ⟨⟨q, a', n', c', rfl, hq⟩, hb⟩
      rw [erK_odd by_ l i hi, shAt_lt by_ l i hi]
      exact ⟨q, a', n', c', rfl, fun h0 => by obtain ⟨h1, h2, h3⟩ := hq h0; exact ⟨h1, h2, h3, kc hb (World.block_lt_of_cell? X _ hJ) hJ⟩, Only.of_below hb⟩
    · intro i hi
      rw [shAt_lt by_ l i hi]
      rfl
    · rintro e W' ⟨h, hO⟩
      have hbW : Below w.heap.size w W' := hw1.trans (hO.below hw1.size (by simp))
      rcases h with ⟨v', rfl, hcl, _, her⟩ | ⟨k, hk, hne, _, rfl⟩
      · rw [shAt_map] at hcl
        obtain ⟨a', c', hv⟩ := hcl.slice
        rw [List.length_map] at hv
        subst hv
        refine ⟨.inl ⟨a', c', rfl, hcl, fun x hx => ?_⟩, hbW⟩
        obtain ⟨i, hi, rfl⟩ := List.getElem_of_mem hx
        have e1 := her (2 * i) (by omega)
        have e2 := her (2 * i + 1) (by omega)
        rw [erK_even by_ l i hi] at e1
        rw [erK_odd by_ l i hi] at e2
        unfold erS at e1 e2
        refine ⟨?_, ?_⟩
        · by_cases h : fineT by_ l[i].l = true
          · exact h
          · rw [if_neg h] at e1; cases e1
        · by_cases h : fineT by_ l[i].r = true
          · exact h
          · rw [if_neg h] at e2; cases e2
      · refine ⟨.inr ⟨_, erK_one hne, rfl, fun hall => hne ?_⟩, hbW⟩
        have hk2 : k / 2 < l.length := by omega
        obtain ⟨f1, f2⟩ := hall _ (List.getElem_mem hk2)
        unfold erK
        rw [List.getElem?_eq_getElem hk2]
        simp only
        split
        · unfold erS; rw [if_pos f1]
        · unfold erS; rw [if_pos f2]
  obtain ⟨a, c, rfl⟩ := hc.slice
  have HRB := hreb
  have HR : Hid (∀ W1, Below (w.alloc (.cells #[.int .i64 by_] 3)).heap.size (w.alloc (.cells #[.int .i64 by_] 3)) W1 → Calls Tryz.prog 20 #[.slice a l.length c, .func (.func 27) #[] #[.pointer (some ⟨w.heap.size, 0, none⟩)]] W1 fun e W' => ((∃ a' c', e = .returned (.tuple #[.slice a' l.length c', .int .i64 0]) ∧ ClauseAt W' (.slice a' l.length c') (l.map (shL by_)) ∧ ∀ x ∈ l, fineT by_ x.l = true ∧ fineT by_ x.r = true) ∨ (∃ E, E = 1 ∧ e = .returned (.tuple #[.slice none 0 0, .int .i64 E]) ∧ ¬ ∀ x ∈ l, fineT by_ x.l = true ∧ fineT by_ x.r = true)) ∧ Below w.heap.size w W') := hreb
  clear hreb HRB hside hshort hc hr hsz
  go_enter Tryz.func9, Tryz.ntmps9
  go_wp2_with (first
    | (go_at_call 20; refine (HR.out W1 H1).mono ?_; rintro e W2 ⟨h, hb⟩; rcases h with ⟨a', c', rfl, hcl, hf⟩ | ⟨E, hE, rfl, hnf⟩)
    | (go_at_call 19; refine hrt.mono ?_; rintro e W1 ⟨rfl, H1⟩))
  · go_ret2
    exact ⟨.inl ⟨_, _, rfl, hcl, hf⟩, hb⟩
  · go_ret2
    exact ⟨.inr ⟨1, rfl, rfl, hnf⟩, hb⟩


/-- The error of Shift. -/
noncomputable def shE (by_ : Int) (l : List Lt) : Int := if crightW l ≠ 0 ∨ fineC by_ l = false then 1 else 0

theorem fineC_iff {by_ : Int} {l : List Lt} : fineC by_ l = true ↔ ∀ x ∈ l, fineT by_ x.l = true ∧ fineT by_ x.r = true := by
  unfold fineC
  rw [List.all_eq_true]
  exact ⟨fun h x hx => by simpa using h x hx, fun h x hx => by simpa using h x hx⟩

set_option maxRecDepth 100000 in
set_option maxHeartbeats 1000000 in
theorem shp_any (l : List Lt) (by_ : Int) (v : Value) (w : World) (hc : ClauseAt w v l) (hsz : csize l ≤ 1048576) (hshort : ∀ t ∈ sidesOf l, Short t) :
    Calls Tryz.prog 9 #[v, .int .i64 by_] w (ApP (shE by_ l) (l.map (shL by_)) w) := by
  by_cases hr : crightW l = 0
  · have hsd := cright_sides hr
    refine (lshift2_any l by_ v w hc hsz hshort hr (fun i hi => ?_)).mono ?_
    · have hx := List.getElem_mem hi
      obtain ⟨h1, h2⟩ := hsd _ hx
      exact ⟨⟨right_shape h1, h1, hshort _ (List.mem_flatMap.2 ⟨_, hx, by simp⟩)⟩, right_shape h2, h2, hshort _ (List.mem_flatMap.2 ⟨_, hx, by simp⟩)⟩
    · rintro e W' ⟨h, hb⟩
      rcases h with ⟨a', c', rfl, hcl, hf⟩ | ⟨E, rfl, rfl, hnf⟩
      · have hE : shE by_ l = 0 := by unfold shE; rw [if_neg (by rw [fineC_iff.2 hf, hr]; simp)]
        rw [hE]
        exact ⟨_, rfl, by rw [if_pos rfl]; exact hcl, hb⟩
      · have hE : shE by_ l = 1 := by
          unfold shE
          rw [if_pos (.inr (by
            cases hf : fineC by_ l
            · rfl
            · exact absurd (fineC_iff.1 hf) hnf))]
        rw [hE]
        exact ApP.no (by decide) hb
  · have HE : Hid (shE by_ l = 1) := by show shE by_ l = 1; unfold shE; rw [if_pos (.inl hr)]
    have hb1 := below_box w (.cells #[.int .i64 by_] 3)
    have h19 := lright_any l v _ (hc.keep hb1) hshort
    have hkb : (crightW l != 0) = true := by rw [bne_iff_ne]; exact hr
    obtain ⟨a, c, rfl⟩ := hc.slice
    rw [HE.out]
    have HB1 : Hid (Below w.heap.size w (w.alloc (.cells #[.int .i64 by_] 3))) := hb1
    clear hr hc hb1 hshort hsz HE
    generalize crightW l = k at *
    go_enter Tryz.func9, Tryz.ntmps9
    go_wp2_with fail
    refine h19.mono ?_
    rintro e W1 ⟨rfl, hb1⟩
    go_wp2
    go_ret2
    exact ApP.no (by decide) (HB1.out.trans (hb1.mono HB1.out.size))

set_option maxRecDepth 100000 in
set_option maxHeartbeats 1000000 in
theorem shd_any (l : List Lt) (by_ : Int) (hby : -9223372036854775808 ≤ by_ ∧ by_ ≤ 9223372036854775807) (v : Value) (w : World) (hc : ClauseAt w v l) (hlen : l.length ≤ 1048576) :
    Calls Tryz.prog 10 #[v, .int .i64 by_] w (ApP (shE by_ l) (l.map (shL by_)) w) := by
  by_cases hr : crightW l = 0
  · have hsd := cright_sides hr
    refine (rcshift_any l by_ hby v w hc hlen hr (fun x hx => ⟨⟨right_shape (hsd x hx).1, (hsd x hx).1⟩, right_shape (hsd x hx).2, (hsd x hx).2⟩)).mono ?_
    rintro e W' ⟨h1, h2, hb⟩
    cases hf : fineC by_ l
    · have hE : shE by_ l = 1 := by unfold shE; rw [if_pos (.inr hf)]
      rw [hE, h2 hf]
      exact ApP.no (by decide) hb
    · have hE : shE by_ l = 0 := by unfold shE; rw [if_neg (by rw [hf, hr]; simp)]
      obtain ⟨v', he, hcl⟩ := h1 hf
      rw [hE, he]
      exact ⟨_, rfl, by rw [if_pos rfl]; exact hcl, hb⟩
  · have HE : Hid (shE by_ l = 1) := by show shE by_ l = 1; unfold shE; rw [if_pos (.inl hr)]
    have h25 := rcright_any l v w hc
    have hkb : (crightW l != 0) = true := by rw [bne_iff_ne]; exact hr
    obtain ⟨a, c, rfl⟩ := hc.slice
    rw [HE.out]
    clear hr hc HE
    generalize crightW l = k at *
    go_enter Tryz.func10, Tryz.ntmps10
    go_wp2_with fail
    refine h25.mono ?_
    rintro e W1 ⟨rfl, hb1⟩
    go_wp2
    go_ret2
    exact ApP.no (by decide) hb1

set_option maxRecDepth 100000 in
set_option maxHeartbeats 1000000 in
theorem app_any (s : List Bd) (l : List Lt) (vs v : Value) (w : World) (hbd : BindsAt w vs s) (hc : ClauseAt w v l) (hbz : ∀ x ∈ s, x.2.size ≤ 1048576) (hsize : ∀ x ∈ l, x.l.size ≤ 1048576 ∧ x.r.size ≤ 1048576) :
    Calls Tryz.prog 7 #[vs, v] w (ApP (apE s l) (apD s l) w) := by
  have hshort : ∀ t ∈ sidesOf l, Short t := fun t ht => by
    obtain ⟨x, hx, hty⟩ := List.mem_flatMap.1 ht
    have : t = x.l ∨ t = x.r := by simpa using hty
    rcases this with rfl | rfl
    · exact (short_of _ (hsize x hx).1).1
    · exact (short_of _ (hsize x hx).2).1
  by_cases hno : isSub s = false ∨ crightW l ≠ 0
  · have HE : Hid (apE s l = 1) := by show apE s l = 1; unfold apE; rw [if_pos hno]
    rw [HE.out]
    obtain ⟨sa, sc, rfl⟩ := hbd.slice
    have hb1 := below_box w (.cells #[.slice sa s.length sc] 22)
    have hq1 := (Boxed.new w 22 (.slice sa s.length sc)).cell
    have h18 := sright_any s (.slice sa s.length sc) (w.alloc (.cells #[.slice sa s.length sc] 22)) (hbd.keep hb1) (fun x hx => (short_of _ (hbz x hx)).1)
    have HB1 : Hid (Below w.heap.size w (w.alloc (.cells #[.slice sa s.length sc] 22))) := hb1
    have H19 : Hid (∀ X, Below w.heap.size w X → Calls Tryz.prog 19 #[v] X fun e w' => e = .returned (.int .i64 (crightW l)) ∧ Below X.heap.size X w') := fun X hX => lright_any l v X (hc.keep hX) hshort
    obtain ⟨a, c, rfl⟩ := hc.slice
    cases hs : isSub s
    · rw [subW_f hs] at h18
      clear hno hs hb1 hshort hbd hc hsize hbz HE
      go_enter Tryz.func7, Tryz.ntmps7
      go_wp2_with fail
      refine h18.mono ?_
      rintro e W1 ⟨rfl, hb1⟩
      go_wp2
      go_ret2
      exact ApP.no (by decide) (HB1.out.trans (hb1.mono HB1.out.size))
    · rw [subW_t hs] at h18
      have hr : crightW l ≠ 0 := by
        rcases hno with h | h
        · rw [hs] at h; cases h
        · exact h
      have hkb : (crightW l != 0) = true := by rw [bne_iff_ne]; exact hr
      clear hno hs hb1 hshort hbd hc hsize hbz HE hr
      generalize crightW l = k at *
      go_enter Tryz.func7, Tryz.ntmps7
      go_wp2_with fail
      refine h18.mono ?_
      rintro e W1 ⟨rfl, hb1⟩
      have HB2 : Hid (Below w.heap.size w W1) := HB1.out.trans (hb1.mono HB1.out.size)
      have h19 := H19.out W1 HB2.out
      go_wp2_with fail
      refine h19.mono ?_
      rintro e W2 ⟨rfl, hb2⟩
      go_wp2
      go_ret2
      exact ApP.no (by decide) (HB2.out.trans (hb2.mono HB2.out.size))
  · have hs : isSub s = true := by
      cases h : isSub s
      · exact absurd (.inl h) hno
      · rfl
    have hr : crightW l = 0 := by
      by_cases h : crightW l = 0
      · exact h
      · exact absurd (.inr h) hno
    have HE : apE s l = crightW (apD s l) := by unfold apE; rw [if_neg hno]
    rw [HE]
    have hsub := isSub_iff.1 hs
    have hsd := cright_sides hr
    refine capply_ok s l ⟨⟨hsub, fun x hx => rt_of (hsub.right x hx) (hbz x hx)⟩, fun x hx => ⟨rt_of (hsd x hx).1 (hsize x hx).1, rt_of (hsd x hx).2 (hsize x hx).2⟩, hsd, ?_⟩ hr vs v w hbd hc
    unfold crightW at hr
    by_cases h60 : 60 < l.length
    · rw [if_pos h60] at hr; cases hr
    · omega

end Go.Proofs.YtgnjgpplelakkaaGreat
