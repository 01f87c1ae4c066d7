import Derived.Test.YtijihmncbaoklaaGreatZHF

/-
  subst.Apply, where it says no.
-/
namespace Go.Proofs.YtijihmncbaoklaaGreat
open Go.RowKit

/-- No term. -/
def zt : T := .mk 0 ⟨#[]⟩ []

set_option maxRecDepth 100000 in
set_option maxHeartbeats 4000000 in
theorem apply_arg (l : List Bd) (hS : ∀ x ∈ l, Short x.2) (t : T) (ht : Short t) (hno : isSub l = false ∨ t.rightW ≠ 0) (v sl : Value) (w : World) (hb : BindsAt w v l) (ha : ArgsAt w sl t.args) :
    Calls Tryz.prog 22 #[v, tval t sl] w fun e W' => e = .returned (.tuple #[tval zt (.slice none 0 0), .int .i64 1]) ∧ Below w.heap.size w W' := by
  obtain ⟨a, c, rfl⟩ := hb.slice
  obtain ⟨sa, sc, rfl, _, _⟩ := ha.slice
  have hA0 := ApI.start w l (.slice a l.length c) t (.slice sa t.args.length sc) hb ha
  have h13 : ∀ X, ApI w l (.slice a l.length c) t (.slice sa t.args.length sc) X → Calls Tryz.prog 45 #[.slice a l.length c] X fun e X' => e = .returned (.int .i64 (subW l)) ∧ ApI w l (.slice a l.length c) t (.slice sa t.args.length sc) X' := fun X hX => (sright_any l _ X hX.binds hS).mono fun e X' ⟨he, hb⟩ => ⟨he, hX.keep hb⟩
  have h28 : ∀ X, ApI w l (.slice a l.length c) t (.slice sa t.args.length sc) X → Calls Tryz.prog 27 #[tval t (.slice sa t.args.length sc)] X fun e X' => e = .returned (.int .i64 t.rightW) ∧ ApI w l (.slice a l.length c) t (.slice sa t.args.length sc) X' := fun X hX => (tright_any t _ X hX.args ht).mono fun e X' ⟨he, hb⟩ => ⟨he, hX.keep hb⟩
  have hC : ∀ X, ApI w l (.slice a l.length c) t (.slice sa t.args.length sc) X → X.cell? ⟨w.heap.size, 0, none⟩ = some (.int .i64 t.v) ∧ X.cell? ⟨w.heap.size, 1, none⟩ = some (.string t.fn) ∧ X.cell? ⟨w.heap.size, 2, none⟩ = some (.slice sa t.args.length sc) := fun X h => (box_facts h.tb).1
  have hRb : ∀ X, ApI w l (.slice a l.length c) t (.slice sa t.args.length sc) X → (X.cell? ⟨w.heap.size + 1, 0, none⟩ = some (.int .i64 0) ∧ X.cell? ⟨w.heap.size + 1, 1, none⟩ = some (.string ⟨#[]⟩) ∧ X.cell? ⟨w.heap.size + 1, 2, none⟩ = some (.slice none 0 0)) ∧ (X.frozen? ⟨w.heap.size + 1, 0, none⟩ = false ∧ X.frozen? ⟨w.heap.size + 1, 1, none⟩ = false ∧ X.frozen? ⟨w.heap.size + 1, 2, none⟩ = false) := fun X h => box_facts h.rb
  have hbl : Hid (∀ X, ApI w l (.slice a l.length c) t (.slice sa t.args.length sc) X → Below w.heap.size w X) := fun X h => h.bel
  obtain ⟨S, hS'⟩ : ∃ S, ApI w l (.slice a l.length c) t (.slice sa t.args.length sc) = S := ⟨_, rfl⟩
  rw [hS'] at hA0 h13 h28 hC hRb hbl
  clear hS' hb ha ht hS
  obtain ⟨k0, k1, k2⟩ := hC _ hA0
  cases e1 : isSub l
  · rw [subW_f e1] at h13
    clear e1 hno h28
    go_enter Tryz.func22, Tryz.ntmps22
    go_wp2_with (go_at_call 45; refine (h13 _ hA0).mono ?_; rintro e W2 ⟨rfl, HW2⟩; obtain ⟨⟨z0, z1, z2⟩, y0, y1, y2⟩ := hRb _ HW2)
    refine bodyPost_ret (v := .tuple #[tval zt (.slice none 0 0), .int .i64 1]) (by simp [results, Tryz.results22, go_sem, *, zt, T.v, T.fn]) rfl ⟨rfl, ?_⟩
    exact set3_below (hbl.out _ HW2) _ 0 _ _ _ (Nat.le_succ _)
  · rw [subW_t e1] at h13
    have hne : t.rightW ≠ 0 := hno.resolve_left (by rw [e1]; decide)
    have hd : (t.rightW != 0) = true := by rw [bne_iff_ne]; exact hne
    clear e1 hno
    go_enter Tryz.func22, Tryz.ntmps22
    go_wp2_with (first
      | (go_at_call 27; refine (h28 _ HW2).mono ?_; rintro e W3 ⟨rfl, HW3⟩; obtain ⟨⟨z0, z1, z2⟩, y0, y1, y2⟩ := hRb _ HW3)
      | (go_at_call 45; refine (h13 _ hA0).mono ?_; rintro e W2 ⟨rfl, HW2⟩; obtain ⟨j0, j1, j2⟩ := hC _ HW2))
    refine bodyPost_ret (v := .tuple #[tval zt (.slice none 0 0), .int .i64 1]) (by simp [results, Tryz.results22, go_sem, *, zt, T.v, T.fn]) rfl ⟨rfl, ?_⟩
    exact set3_below (hbl.out _ HW3) _ 0 _ _ _ (Nat.le_succ _)

set_option maxRecDepth 100000 in
set_option maxHeartbeats 4000000 in
theorem apply_big (l : List Bd) (hl : Sb l) (t : T) (ht : Rt t) (ht0 : t.rightW = 0) (hfit : fitsW (t.app (img l)) ≠ 0) (v sl : Value) (w : World) (hb : BindsAt w v l) (ha : ArgsAt w sl t.args) :
    Calls Tryz.prog 22 #[v, tval t sl] w fun e W' => e = .returned (.tuple #[tval zt (.slice none 0 0), .int .i64 (fitsW (t.app (img l)))]) ∧ Below w.heap.size w W' := by
  obtain ⟨a, c, rfl⟩ := hb.slice
  obtain ⟨sa, sc, rfl, _, _⟩ := ha.slice
  have hA0 := ApI.start w l (.slice a l.length c) t (.slice sa t.args.length sc) hb ha
  have h13 : ∀ X, ApI w l (.slice a l.length c) t (.slice sa t.args.length sc) X → Calls Tryz.prog 45 #[.slice a l.length c] X fun e X' => e = .returned (.int .i64 0) ∧ ApI w l (.slice a l.length c) t (.slice sa t.args.length sc) X' := fun X hX => (sright_any l _ X hX.binds (fun x hx => (hl.rt x hx).short)).mono fun e X' ⟨he, hb⟩ => ⟨by rw [he, subW_t (isSub_iff.2 hl.sub)], hX.keep hb⟩
  have h28 : ∀ X, ApI w l (.slice a l.length c) t (.slice sa t.args.length sc) X → Calls Tryz.prog 27 #[tval t (.slice sa t.args.length sc)] X fun e X' => e = .returned (.int .i64 0) ∧ ApI w l (.slice a l.length c) t (.slice sa t.args.length sc) X' := fun X hX => (tright_any t _ X hX.args ht.short).mono fun e X' ⟨he, hb⟩ => ⟨by rw [he, ht0], hX.keep hb⟩
  have h30 : ∀ X, ApI w l (.slice a l.length c) t (.slice sa t.args.length sc) X → Calls Tryz.prog 47 #[.slice a l.length c] X fun e X' => (∃ B1 B2 g, e = .returned (.func (.func 73) #[] #[.pointer (some ⟨B1, 0, none⟩), .pointer (some ⟨B2, 0, none⟩)]) ∧ ExtAt X' l (.slice a l.length c) B1 B2 g) ∧ ApI w l (.slice a l.length c) t (.slice sa t.args.length sc) X' := fun X hX => (extents_any l _ X hX.binds hl.rt hl.sub.1).mono fun e X' ⟨he, hb⟩ => ⟨he, hX.keep hb⟩
  have h29 : ∀ X B1 B2 g, ApI w l (.slice a l.length c) t (.slice sa t.args.length sc) X → ExtAt X l (.slice a l.length c) B1 B2 g → Calls Tryz.prog 46 #[tval t (.slice sa t.args.length sc), .func (.func 73) #[] #[.pointer (some ⟨B1, 0, none⟩), .pointer (some ⟨B2, 0, none⟩)]] X fun e X' => e = .returned (.int .i64 (fitsW (t.app (img l)))) ∧ ApI w l (.slice a l.length c) t (.slice sa t.args.length sc) X' := fun X B1 B2 g hX hE => (fits_any X 73 _ (img l) eg57 (extents_of l hl.sub _ B1 B2 g X hE) (img_size l hl.rt) t _ X (Below.refl _ _) hX.args ht.size).mono fun e X' ⟨he, hb⟩ => ⟨he, hX.keep hb⟩
  have hdr : ∀ X, ApI w l (.slice a l.length c) t (.slice sa t.args.length sc) X → ApI w l (.slice a l.length c) t (.slice sa t.args.length sc) X.drew := fun X h => h.keep (Below.refl _ X).drew
  have hC : ∀ X, ApI w l (.slice a l.length c) t (.slice sa t.args.length sc) X → X.cell? ⟨w.heap.size, 0, none⟩ = some (.int .i64 t.v) ∧ X.cell? ⟨w.heap.size, 1, none⟩ = some (.string t.fn) ∧ X.cell? ⟨w.heap.size, 2, none⟩ = some (.slice sa t.args.length sc) := fun X h => (box_facts h.tb).1
  have hRb : ∀ X, ApI w l (.slice a l.length c) t (.slice sa t.args.length sc) X → (X.cell? ⟨w.heap.size + 1, 0, none⟩ = some (.int .i64 0) ∧ X.cell? ⟨w.heap.size + 1, 1, none⟩ = some (.string ⟨#[]⟩) ∧ X.cell? ⟨w.heap.size + 1, 2, none⟩ = some (.slice none 0 0)) ∧ (X.frozen? ⟨w.heap.size + 1, 0, none⟩ = false ∧ X.frozen? ⟨w.heap.size + 1, 1, none⟩ = false ∧ X.frozen? ⟨w.heap.size + 1, 2, none⟩ = false) := fun X h => box_facts h.rb
  have hbl : Hid (∀ X, ApI w l (.slice a l.length c) t (.slice sa t.args.length sc) X → Below w.heap.size w X) := fun X h => h.bel
  obtain ⟨f, hf⟩ : ∃ f, fitsW (t.app (img l)) = f := ⟨_, rfl⟩
  rw [hf] at h29 hfit ⊢
  have hd : (f != 0) = true := by rw [bne_iff_ne]; exact hfit
  obtain ⟨S, hS⟩ : ∃ S, ApI w l (.slice a l.length c) t (.slice sa t.args.length sc) = S := ⟨_, rfl⟩
  rw [hS] at hA0 h13 h28 h30 h29 hdr hC hRb hbl
  clear hS hf hb ha hfit ht ht0 hl
  obtain ⟨k0, k1, k2⟩ := hC _ hA0
  go_enter Tryz.func22, Tryz.ntmps22
  go_wp2_with (first
    | (go_at_call 27; refine (h28 _ HW2).mono ?_; rintro e W3 ⟨rfl, HW3⟩)
    | (go_at_call 45; refine (h13 _ hA0).mono ?_; rintro e W2 ⟨rfl, HW2⟩; obtain ⟨j0, j1, j2⟩ := hC _ HW2))
  have hSd := hdr _ HW3
  obtain ⟨n0, n1, n2⟩ := hC _ hSd
  clear k0 k1 k2 j0 j1 j2 h13 h28 hA0
  go_region_held3 (fun X => X.cell? ⟨w.heap.size, 0, none⟩ = some (.int .i64 t.v) ∧ X.cell? ⟨w.heap.size, 1, none⟩ = some (.string t.fn) ∧ X.cell? ⟨w.heap.size, 2, none⟩ = some (.slice sa t.args.length sc)) (first | exact ⟨n0, n1, n2⟩ | exact K4 | exact K5) (first
    | (go_at_call 47; refine (h30 _ hSd).mono ?_; rintro e W4 ⟨⟨B1, B2, g, rfl, hE⟩, HW4⟩; have K4 := hC _ HW4)
    | (go_at_call 46; refine (h29 _ B1 B2 g HW4 hE).mono ?_; rintro e W5 ⟨rfl, HW5⟩; have K5 := hC _ HW5; obtain ⟨⟨z0, z1, z2⟩, y0, y1, y2⟩ := hRb _ HW5))
  clear n0 n1 n2 K4 K5 hE
  go_wp2
  refine bodyPost_ret (v := .tuple #[tval zt (.slice none 0 0), .int .i64 f]) (by simp [results, Tryz.results22, go_sem, *, zt, T.v, T.fn]) rfl ⟨rfl, ?_⟩
  exact set3_below (hbl.out _ HW5) _ 0 _ _ _ (Nat.le_succ _)

end Go.Proofs.YtijihmncbaoklaaGreat

/-
  UnifyGeneral: instances and their parts; Of; Apply, whatever it answers.
-/
namespace Go.Proofs.YtijihmncbaoklaaGreat
open Go.RowKit Go.Maps

theorem sum_mono {f g : T → Int} : ∀ {q : List T}, (∀ a ∈ q, f a ≤ g a) → (q.map f).sum ≤ (q.map g).sum
  | [], _ => by simp
  | a :: r, h => by
    have h1 := h a List.mem_cons_self
    have h2 := sum_mono (q := r) fun x hx => h x (List.mem_cons_of_mem _ hx)
    simp only [List.map_cons, List.sum_cons]
    omega
theorem max_mono {f g : T → Int} : ∀ {q : List T} {m m' : Int}, m ≤ m' → (∀ a ∈ q, f a ≤ g a) → (q.map f).foldl max m ≤ (q.map g).foldl max m'
  | [], _, _, h, _ => by simpa using h
  | a :: r, m, m', hm, h => by
    have h1 := h a List.mem_cons_self
    simp only [List.map_cons, List.foldl_cons]
    exact max_mono (q := r) (by omega) fun x hx => h x (List.mem_cons_of_mem _ hx)

/-- A term is no greater than an instance of it. -/
theorem inst_ge (σ : Int → T) (t : T) : t.shape = true → t.size ≤ (t.app σ).size ∧ t.depth ≤ (t.app σ).depth := by
  induction t using T.ind with
  | _ t ih =>
    intro hs
    cases hv : uvar t with
    | true =>
      have h0 := (shape_var hs hv).1
      have h1 := size_ge (t.app σ)
      have h2 := depth_pos (t.app σ)
      rw [T.size_eq t, T.depth_eq t, h0]
      simp
      omega
    | false =>
      have hf : ¬ t.fn.size = 0 := by simpa [uvar] using hv
      have hsh := (shape_fn5 hs hv).2.2
      have k1 := sum_mono (f := T.size) (g := fun a => (a.app σ).size) (q := t.args) fun a ha => (ih a ha (hsh a ha)).1
      have k2 := max_mono (f := T.depth) (g := fun a => (a.app σ).depth) (q := t.args) (m := 0) (m' := 0) (Int.le_refl _) fun a ha => (ih a ha (hsh a ha)).2
      rw [T.app_eq, if_neg hf, T.size_eq t, T.depth_eq t, T.size_eq (.mk _ _ _), T.depth_eq (.mk _ _ _)]
      show _ ≤ 1 + ((t.args.map (T.app σ)).map T.size).sum ∧ _ ≤ ((t.args.map (T.app σ)).map T.depth).foldl max 0 + 1
      simp only [List.map_map, Function.comp_def]
      omega

theorem ok_part {σ : Int → T} {t u : T} (hs : t.shape = true) (h : t.app σ = u) (hu : OkT u) : OkT t := by
  have k := inst_ge σ t hs
  rw [h] at k
  exact ⟨hs, by have := hu.size; omega, by have := hu.depth; omega⟩

theorem ok_var {n : Int} (h : 0 ≤ n ∧ n < 1000000) : OkT (var n) := by
  refine ⟨var_shape h, ?_, ?_⟩
  · rw [T.size_eq]; simp [var, T.args]
  · rw [T.depth_eq]; simp [var, T.args]

/-- What Is allows. -/
theorem sub_of {l : List Bd} (h : isSub l = true) (hs : ∀ x ∈ l, x.2.size ≤ 1048576) : Sb l ∧ ∀ n, 0 ≤ n ∧ n < 1000000 → OkT (img l n) := by
  have hi := isSub_iff.1 h
  have ho : ∀ x ∈ l, OkT x.2 := fun x hx => by
    obtain ⟨j, hj, rfl⟩ := List.mem_iff_getElem.1 hx
    have hk := hi.2 j hj
    unfold okb at hk
    simp only [Bool.and_eq_true, decide_eq_true_eq] at hk
    exact ok_of hk.2 (hs _ hx)
  refine ⟨⟨hi, fun x hx => (ho x hx).rt⟩, fun n hn => ?_⟩
  by_cases e : ∃ k, ∃ h : k < l.length, l[k].1 = n
  · obtain ⟨k, hk, rfl⟩ := e
    rw [img_yes hi.rising hk rfl]
    exact ho _ (List.getElem_mem hk)
  · rw [img_no fun k hk h' => e ⟨k, hk, h'⟩]
    exact ok_var hn

/-- What Apply answers, whatever term it gets. -/
def apE (l : List Bd) (t : T) : Int := if t.rightW = 0 then fitsW (t.app (img l)) else 1
def apT (l : List Bd) (t : T) : T := if t.rightW = 0 ∧ fitsW (t.app (img l)) = 0 then t.app (img l) else zt
theorem ap_zero {l : List Bd} {t : T} (h : apE l t = 0) : t.rightW = 0 ∧ apT l t = t.app (img l) := by
  unfold apE at h
  by_cases h1 : t.rightW = 0
  · rw [if_pos h1] at h
    exact ⟨h1, by unfold apT; rw [if_pos ⟨h1, h⟩]⟩
  · rw [if_neg h1] at h
    cases h

theorem apply_all (l : List Bd) (hl : Sb l) (t : T) (hs : t.size ≤ 1048576) (v sl : Value) (w : World) (hb : BindsAt w v l) (ha : ArgsAt w sl t.args) :
    Calls Tryz.prog 22 #[v, tval t sl] w fun e W' => ∃ sl', e = .returned (.tuple #[tval (apT l t) sl', .int .i64 (apE l t)]) ∧ ArgsFr w.heap.size W' sl' (apT l t).args ∧ Below w.heap.size w W' := by
  by_cases h1 : t.rightW = 0
  · have ho := ok_of h1 hs
    by_cases h2 : fitsW (t.app (img l)) = 0
    · refine (apply_ok l hl t ho.rt h1 h2 v sl w hb ha).mono fun e W' ⟨s, k1, k2, k3⟩ => ?_
      have e1 : apT l t = t.app (img l) := by unfold apT; rw [if_pos ⟨h1, h2⟩]
      have e2 : apE l t = 0 := by unfold apE; rw [if_pos h1, h2]
      rw [e1, e2]
      exact ⟨s, k1, k2, k3⟩
    · refine (apply_big l hl t ho.rt h1 h2 v sl w hb ha).mono fun e W' ⟨k1, k3⟩ => ?_
      have e1 : apT l t = zt := by unfold apT; rw [if_neg fun h => h2 h.2]
      have e2 : apE l t = fitsW (t.app (img l)) := by unfold apE; rw [if_pos h1]
      rw [e1, e2]
      exact ⟨_, k1, ArgsFr.nil _ _, k3⟩
  · refine (apply_arg l (fun x hx => (hl.rt x hx).short) t (short_of t hs).1 (.inr h1) v sl w hb ha).mono fun e W' ⟨k1, k3⟩ => ?_
    have e1 : apT l t = zt := by unfold apT; rw [if_neg fun h => h1 h.1]
    have e2 : apE l t = 1 := by unfold apE; rw [if_neg h1]
    rw [e1, e2]
    exact ⟨_, k1, ArgsFr.nil _ _, k3⟩

end Go.Proofs.YtijihmncbaoklaaGreat
