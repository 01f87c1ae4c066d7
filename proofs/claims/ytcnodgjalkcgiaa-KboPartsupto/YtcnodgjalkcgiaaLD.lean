/-
  What stands at a place: the document's At.
-/
import Derived.Test.YtcnodgjalkcgiaaTA
import Derived.Test.YtcnodgjalkcgiaaKT
namespace Go.Proofs.Ytcnodgjalkcgiaa
open Go.RowKit Go.Maps

/-- What stands at a place. -/
def T.at : List Int → T → Option T
  | [], t => some t
  | i :: p, t => if h : 0 ≤ i ∧ i < (t.args.length : Int) then T.at p (t.args[i.toNat]'(by omega)) else none

theorem RowAt.tail {α : Type} {f : α → Value} {W : World} {a : Option Addr} {n c : Nat} {x : α} {l : List α} (h : RowAt f W (.slice a n c) (x :: l)) : RowAt f W (.slice (Option.map (fun x => x.add 1) a) l.length (c - 1)) l := by
  obtain ⟨a', c', h1, h2, h3, h4⟩ := h
  cases h1
  simp only [List.length_cons] at h2
  refine ⟨_, _, rfl, by omega, by omega, fun h0 => ?_⟩
  obtain ⟨b, o, hlt, rfl, hc⟩ := h4 (by simp)
  refine ⟨b, o + 1, hlt, by simp [addr_add], fun i hi => ?_⟩
  have := hc (i + 1) (by simp; omega)
  rw [show o + 1 + i = o + (i + 1) by omega]
  exact this
theorem RowAt.tail1 {α : Type} {f : α → Value} {W : World} {a : Option Addr} {n c : Nat} {x : α} {l : List α} (h : RowAt f W (.slice a n c) (x :: l)) (hc : c = 1) : RowAt f W (.slice a l.length 0) l := by
  obtain ⟨a', c', h1, h2, h3, h4⟩ := h
  cases h1
  simp only [List.length_cons] at h2
  have : l = [] := List.length_eq_zero_iff.1 (by omega)
  subst this
  exact ⟨_, _, rfl, Nat.le_refl _, by decide, fun h => absurd h (by simp)⟩

theorem set3_c {W : World} {k o b o' : Nat} {u v s x : Value} (h : k ≠ b) (hc : W.cell? ⟨k, o, none⟩ = some x) : (set3 W b o' u v s).cell? ⟨k, o, none⟩ = some x :=
  (World.cell?_of_block (a := ⟨k, o, none⟩) (set3_other W b o' u v s k h)).trans hc

/-- What At answers. -/
def AtAns (p : List Int) (t : T) (w0 w w' : World) (r : T) (sr : Value) (b : Bool) : Prop :=
  ArgsAt w0 sr r.args ∧ Below w.heap.size w w' ∧ ((b = true ∧ T.at p t = some r) ∨ (b = false ∧ T.at p t = none))

set_option maxRecDepth 100000 in
set_option maxHeartbeats 4000000 in
theorem tat_any (w0 : World) : ∀ (p : List Int) (t : T) (sl pv : Value) (w : World), Below w0.heap.size w0 w → RowAt (.int .i64) w pv p → ArgsAt w0 sl t.args →
    Calls Try.prog 21 #[tval t sl, pv] w fun e w' => ∃ r pa pc b, e = .returned (.tuple #[tval r (.slice pa r.args.length pc), .bool b]) ∧ Hid (AtAns p t w0 w w' r (.slice pa r.args.length pc) b) := by
  intro p
  induction p with
  | nil =>
    intro t sl pv w hb0 hp ha
    obtain ⟨pa, pc, rfl, _, _⟩ := hp.slice
    obtain ⟨a, c, rfl, _, _⟩ := ha.slice
    have hb2 := below_box2 w (tbox t (.slice a t.args.length c)) (.cells #[.int .i64 0, .string ⟨#[]⟩, .slice none 0 0] 28)
    have hz := (MapKept.heap_alloc (w.alloc (tbox t (.slice a t.args.length c))) (.cells #[.int .i64 0, .string ⟨#[]⟩, .slice none 0 0] 28)).1
    rw [World.size_alloc] at hz
    obtain ⟨⟨z0, z1, z2⟩, y0, y1, y2⟩ := box_facts hz
    obtain ⟨t0, t1, t2⟩ := tbox_cells w t (.slice a t.args.length c)
    have hbb := below_box (w.alloc (tbox t (.slice a t.args.length c))) (.cells #[.int .i64 0, .string ⟨#[]⟩, .slice none 0 0] 28)
    have t0' := kc hbb (by simp) t0
    have t1' := kc hbb (by simp) t1
    have t2' := kc hbb (by simp) t2
    have HA : Hid (ArgsAt w0 (.slice a t.args.length c) t.args) := ha
    clear hz hb2 hbb t0 t1 t2 ha hp hb0
    simp only [List.length_nil]
    go_enter Try.func21, Try.ntmps21
    go_wp2
    refine bodyPost_ret (v := .tuple #[tval t (.slice a t.args.length c), .bool true]) (by simp [results, Try.results21, go_sem, *]) rfl ⟨t, _, _, true, rfl, ?_⟩
    have hbw := below_box2 w (tbox t (.slice a t.args.length c)) (tbox t (.slice a t.args.length c))
    exact ⟨HA.out, hbw, .inl ⟨rfl, rfl⟩⟩
  | cons i p ih =>
    intro t sl pv w hb0 hp ha
    obtain ⟨pa, pc, rfl, hpl, hpm⟩ := hp.slice
    obtain ⟨pb, po, rfl, hpb, hcell⟩ := hp.nth (i := 0) (by simp)
    obtain ⟨a, c, rfl, _, _⟩ := ha.slice
    have hcell0 : w.cell? ⟨pb, po, none⟩ = some (.int .i64 i) := hcell
    obtain ⟨W1, hW1⟩ : ∃ W1, (w.alloc (tbox t (.slice a t.args.length c))).alloc (.cells #[.int .i64 0, .string ⟨#[]⟩, .slice none 0 0] 28) = W1 := ⟨_, rfl⟩
    have hb2 : Below w.heap.size w W1 := by rw [← hW1]; exact below_box2 w _ _
    have hz : W1.heap[w.heap.size + 1]? = some (.cells #[.int .i64 0, .string ⟨#[]⟩, .slice none 0 0] 28 (0, 0)) := by
      have := (MapKept.heap_alloc (w.alloc (tbox t (.slice a t.args.length c))) (.cells #[.int .i64 0, .string ⟨#[]⟩, .slice none 0 0] 28)).1
      rw [World.size_alloc, hW1] at this
      exact this
    obtain ⟨t0, t1, t2⟩ := tbox_cells w t (.slice a t.args.length c)
    have hbb := below_box (w.alloc (tbox t (.slice a t.args.length c))) (.cells #[.int .i64 0, .string ⟨#[]⟩, .slice none 0 0] 28)
    rw [hW1] at hbb
    have t2' := kc hbb (by simp) t2
    have hsz : W1.heap.size = w.heap.size + 2 := by rw [← hW1]; simp
    have hcw := kc hb2 hpb hcell0
    have hF : ∀ q : Far, (far W1 q).cell? ⟨w.heap.size, 2, none⟩ = some (.slice a t.args.length c) ∧ (far W1 q).cell? ⟨pb, po, none⟩ = some (.int .i64 i) := fun q => ⟨cell_far (by omega) t2' q, cell_far (by omega) hcw q⟩
    have hF0 := fun q => (hF q).1
    have hF1 := fun q => (hF q).2
    have HP : Hid (RowAt (.int .i64) w (.slice (some ⟨pb, po, none⟩) (i :: p).length pc) (i :: p) ∧ ArgsAt w0 (.slice a t.args.length c) t.args ∧ Below w.heap.size w W1 ∧ W1.heap.size = w.heap.size + 2) := ⟨hp, ha, hb2, hsz⟩
    have H0 : Hid (Below w0.heap.size w0 w) := hb0
    clear hb0
    have hl1 : ((i :: p).length : Int) = (p.length : Int) + 1 := by simp
    have hne : (((i :: p).length : Int) == 0) = false := by rw [beq_eq_false_iff_ne]; omega
    have HE : Hid (T.at (i :: p) t = if h : 0 ≤ i ∧ i < (t.args.length : Int) then T.at p (t.args[i.toNat]'(by omega)) else none) := rfl
    obtain ⟨n, hn⟩ : ∃ n, (i :: p).length = n := ⟨_, rfl⟩
    rw [hn] at hne hpl HP hl1
    have hn0 : (0 : Int) < (n : Int) := by omega
    have hn1 : (1 : Int) ≤ (n : Int) := by omega
    have hpl' : (n : Int) ≤ (pc : Int) := by omega
    rw [hn]
    have HL : Hid (n = p.length + 1) := by show _ = _; rw [← hn]; simp
    clear hl1 hn
    clear hp ha hcell hcell0 t0 t1 t2 hbb hF
    by_cases hbad : i < 0 ∨ (t.args.length : Int) ≤ i
    · have HN : Hid (T.at (i :: p) t = none) := by show _ = _; rw [HE.out, dif_neg (by omega)]
      have hgu : (decide (i < 0) = true) ∨ (decide (i < 0) = false ∧ decide ((t.args.length : Int) ≤ i) = true) := by
        by_cases h : i < 0
        · exact .inl (decide_eq_true h)
        · exact .inr ⟨decide_eq_false h, decide_eq_true (by omega)⟩
      clear HE hbad
      rcases hgu with h1 | ⟨h1, h2⟩
      all_goals (
        go_enter Try.func21, Try.ntmps21
        try rw [hW1]
        go_wp2
        refine wp_region_far (by kernel_rfl) ?_
        repeat (first | go_big_quiet_step (fail) | quiet_step (fail))
        refine wpQuiet_nil ?_
        intro _ hw'
        obtain ⟨pf, rfl⟩ := hw'
        have hzf := ((below_far W1 pf).block (w.heap.size + 1) (by have := HP.out.2.2.2; omega)).trans hz
        obtain ⟨⟨z0, z1, z2⟩, y0, y1, y2⟩ := box_facts hzf
        clear hzf
        go_wp2
        refine bodyPost_ret (v := .tuple #[tval zt (.slice none 0 0), .bool false]) (by simp [results, Try.results21, go_sem, *, zt, T.v, T.fn]) rfl ⟨zt, none, 0, false, rfl, ?_⟩
        exact ⟨nilArgs _, set3_below (HP.out.2.2.1.trans ((below_far W1 pf).mono HP.out.2.2.1.size)) _ 0 _ _ _ (Nat.le_succ _), .inr ⟨rfl, HN.out⟩⟩)
    · have hi0 : 0 ≤ i := by omega
      obtain ⟨k, rfl⟩ := Int.eq_ofNat_of_zero_le hi0
      have hk : k < t.args.length := by omega
      have HN : Hid (T.at ((k : Int) :: p) t = T.at p t.args[k]) := by show _ = _; rw [HE.out, dif_pos (by omega)]; rfl
      have h1 : decide ((k : Int) < 0) = false := decide_eq_false (by omega)
      have h2 : decide ((t.args.length : Int) ≤ (k : Int)) = false := decide_eq_false (by omega)
      have h3 : ¬ t.args.length ≤ k := by omega
      clear HE hbad
      go_enter Try.func21, Try.ntmps21
      try rw [hW1]
      go_wp2
      refine wp_region_far (by kernel_rfl) ?_
      repeat (first | go_big_quiet_step (fail) | quiet_step (fail))
      refine wpQuiet_nil ?_
      intro _ hw'
      obtain ⟨pf, rfl⟩ := hw'
      obtain ⟨W2, hW2⟩ : ∃ W2, far W1 pf = W2 := ⟨_, rfl⟩
      have hb12 : Below W1.heap.size W1 W2 := by rw [← hW2]; exact below_far W1 pf
      rw [hW2]
      have hdr : Below W2.heap.size W2 W2.drew := (Below.refl _ W2).drew
      have hbw2 : Below w.heap.size w W2.drew := (HP.out.2.2.1.trans (hb12.mono HP.out.2.2.1.size)).trans (hdr.mono (by have := hb12.size; have := HP.out.2.2.2; omega))
      obtain ⟨ba, oa, s, rfl, hba, a0, a1, a2, hs⟩ := HP.out.2.1.nth hk
      obtain ⟨sa, sca, rfl, _⟩ := hs.slice
      have hba' := Nat.lt_of_lt_of_le hba H0.out.size
      replace a0 := kc H0.out hba a0
      replace a1 := kc H0.out hba a1
      replace a2 := kc H0.out hba a2
      have hb12d : Below W1.heap.size W1 W2.drew := hb12.trans (hdr.mono hb12.size)
      have hC : ∀ X, Below W2.drew.heap.size W2.drew X → (X.cell? ⟨w.heap.size, 2, none⟩ = some (.slice (some ⟨ba, oa, none⟩) t.args.length c) ∧ X.cell? ⟨pb, po, none⟩ = some (.int .i64 (k : Int))) ∧ (X.cell? ⟨ba, oa + k * 3, none⟩ = some (.int .i64 t.args[k].v) ∧ X.cell? ⟨ba, oa + k * 3 + 1, none⟩ = some (.string t.args[k].fn) ∧ X.cell? ⟨ba, oa + k * 3 + 2, none⟩ = some (.slice sa t.args[k].args.length sca)) := fun X hX => by
        have hbX := hbw2.trans (hX.mono hbw2.size)
        have hb1X := hb12d.trans (hX.mono hb12d.size)
        have hs2 := HP.out.2.2.2
        exact ⟨⟨kc hb1X (by omega) t2', kc hb1X (by omega) hcw⟩, kc hbX hba' a0, kc hbX hba' a1, kc hbX hba' a2⟩
      have hRb : ∀ X, Below W2.drew.heap.size W2.drew X → (X.cell? ⟨w.heap.size + 1, 0, none⟩ = some (.int .i64 0) ∧ X.cell? ⟨w.heap.size + 1, 1, none⟩ = some (.string ⟨#[]⟩) ∧ X.cell? ⟨w.heap.size + 1, 2, none⟩ = some (.slice none 0 0)) ∧ (X.frozen? ⟨w.heap.size + 1, 0, none⟩ = false ∧ X.frozen? ⟨w.heap.size + 1, 1, none⟩ = false ∧ X.frozen? ⟨w.heap.size + 1, 2, none⟩ = false) := fun X hX => by
        have hb1X := hb12d.trans (hX.mono hb12d.size)
        exact box_facts ((hb1X.block (w.heap.size + 1) (by have := HP.out.2.2.2; omega)).trans hz)
      have K0 := hC _ (Below.refl _ _)
      have hplen : p.length = n - 1 := by have := HL.out; omega
      have hcall : ∀ qv, RowAt (.int .i64) w qv p → Calls Try.prog 21 #[.agg #[.int .i64 t.args[k].v, .string t.args[k].fn, .slice sa t.args[k].args.length sca], qv] W2.drew fun e X' => ∃ r pa pc b, e = .returned (.tuple #[.agg #[.int .i64 r.v, .string r.fn, .slice pa r.args.length pc], .bool b]) ∧ Hid (AtAns p t.args[k] w0 W2.drew X' r (.slice pa r.args.length pc) b) := fun qv hq => ih t.args[k] _ qv W2.drew (H0.out.trans (hbw2.mono H0.out.size)) (hq.keep hbw2 (Nat.le_refl _)) hs
      have HO : Hid (∀ X, Below W2.drew.heap.size W2.drew X → Below w.heap.size w X) := fun X hX => hbw2.trans (hX.mono hbw2.size)
      obtain ⟨u, hu⟩ : ∃ u, t.args[k] = u := ⟨_, rfl⟩
      rw [hu] at K0 hcall HN
      simp only [hu] at hC
      have hk1 : (0 : Int) ≤ (k : Int) := by omega
      have hk2 : (k : Int) < (t.args.length : Int) := by omega
      clear hu hs a0 a1 a2 hF0 hF1 t2' hcw hb12 hb12d hdr ih hW2 hz
      have hn2 : 0 < n := by omega
      have e1 : pb ≠ w.heap.size + 1 := by omega
      have e2 : ba ≠ w.heap.size + 1 := by omega
      have e3 : w.heap.size ≠ w.heap.size + 1 := by omega
      by_cases hc1 : pc = 1
      · have oP := HP.out.1.tail1 hc1
        rw [hplen] at oP
        have hcall' := hcall _ oP
        clear hcall oP
        go_wp2
        go_region_held3 (fun X => (X.cell? ⟨w.heap.size, 2, none⟩ = some (.slice (some ⟨ba, oa, none⟩) t.args.length c) ∧ X.cell? ⟨pb, po, none⟩ = some (.int .i64 (k : Int))) ∧ (X.cell? ⟨ba, oa + k * 3, none⟩ = some (.int .i64 u.v) ∧ X.cell? ⟨ba, oa + k * 3 + 1, none⟩ = some (.string u.fn) ∧ X.cell? ⟨ba, oa + k * 3 + 2, none⟩ = some (.slice sa u.args.length sca))) (first | exact K0 | exact K3 | exact ⟨⟨set3_c e3 K3.1.1, set3_c e1 K3.1.2⟩, set3_c e2 K3.2.1, set3_c e2 K3.2.2.1, set3_c e2 K3.2.2.2⟩) (first
          | (go_at_call 21; refine hcall'.mono ?_; rintro e W3 ⟨r, ra, rc, b3, rfl, H3⟩; have K3 := hC _ H3.out.2.1; obtain ⟨⟨z0, z1, z2⟩, y0, y1, y2⟩ := hRb _ H3.out.2.1))
        clear K0 K3 hC hRb hcall' hk1 hk2 hn0 hn1 hn2
        go_wp2
        refine bodyPost_ret (v := .tuple #[tval r (.slice ra r.args.length rc), .bool b3]) (by simp [results, Try.results21, go_sem, *]) rfl ⟨r, ra, rc, b3, rfl, ?_⟩
        exact ⟨H3.out.1, set3_below (HO.out _ H3.out.2.1) _ 0 _ _ _ (Nat.le_succ _), by rw [HN.out]; exact H3.out.2.2⟩
      · have oP := HP.out.1.tail
        simp only [Option.map_some, addr_add] at oP
        rw [hplen] at oP
        have hcall' := hcall _ oP
        clear hcall oP
        go_wp2
        go_region_held3 (fun X => (X.cell? ⟨w.heap.size, 2, none⟩ = some (.slice (some ⟨ba, oa, none⟩) t.args.length c) ∧ X.cell? ⟨pb, po, none⟩ = some (.int .i64 (k : Int))) ∧ (X.cell? ⟨ba, oa + k * 3, none⟩ = some (.int .i64 u.v) ∧ X.cell? ⟨ba, oa + k * 3 + 1, none⟩ = some (.string u.fn) ∧ X.cell? ⟨ba, oa + k * 3 + 2, none⟩ = some (.slice sa u.args.length sca))) (first | exact K0 | exact K3 | exact ⟨⟨set3_c e3 K3.1.1, set3_c e1 K3.1.2⟩, set3_c e2 K3.2.1, set3_c e2 K3.2.2.1, set3_c e2 K3.2.2.2⟩) (first
          | (go_at_call 21; refine hcall'.mono ?_; rintro e W3 ⟨r, ra, rc, b3, rfl, H3⟩; have K3 := hC _ H3.out.2.1; obtain ⟨⟨z0, z1, z2⟩, y0, y1, y2⟩ := hRb _ H3.out.2.1))
        clear K0 K3 hC hRb hcall' hk1 hk2 hn0 hn1 hn2
        go_wp2
        refine bodyPost_ret (v := .tuple #[tval r (.slice ra r.args.length rc), .bool b3]) (by simp [results, Try.results21, go_sem, *]) rfl ⟨r, ra, rc, b3, rfl, ?_⟩
        exact ⟨H3.out.1, set3_below (HO.out _ H3.out.2.1) _ 0 _ _ _ (Nat.le_succ _), by rw [HN.out]; exact H3.out.2.2⟩

end Go.Proofs.Ytcnodgjalkcgiaa
