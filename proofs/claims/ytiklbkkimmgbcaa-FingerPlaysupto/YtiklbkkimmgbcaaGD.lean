/-
  fitting, of any index.
-/
import Derived.Test.YtiklbkkimmgbcaaGC
namespace Go.Proofs.Ytiklbkkimmgbcaa
open Go.RowKit Go.Maps

theorem nums_row {W : World} {base : Nat} {v : Value} {k : Nat} {ys : List Int} (h : W.ownsRow base 3 1 v k (ys.map (Value.int .i64))) : RowAt (fun k : Int => .int .i64 k) W v ys := by
  have hl : ys.length = k := by simpa using h.1
  subst hl
  obtain ⟨_, ⟨e, h0⟩ | ⟨g, cap, cur, e1, e2, e3, e4, e5, e6, e7⟩⟩ := h
  · have : ys = [] := List.eq_nil_of_length_eq_zero h0
    subst this
    exact ⟨none, 0, e, Nat.le_refl _, by omega, fun h => absurd h (by simp)⟩
  · refine ⟨_, cap, e1, e4, by unfold maxLen at e5; omega, fun _ => ⟨g, 0, (Array.getElem?_eq_some_iff.1 e3).1, rfl, fun i hi => ?_⟩⟩
    have hj : (ys.map (Value.int .i64))[i]? = some (.int .i64 ys[i]) := by simp [hi]
    rw [← e7, List.getElem?_take, if_pos (by omega)] at hj
    rw [Nat.zero_add, cell_of_row _ _ _ _ 3 (0, 0) e3, ← hj]
    simp
theorem entry_of {L : List (Int × Fp)} {γ : Fp → Nat × Nat} {D : DataW Value} (hR : ∀ key kl, keyOf Try.prog 66 key = some kl → (∀ v, gmap L γ key = some v → Maps.has D kl = true ∧ ∀ z, D.atKey kl z = .held v) ∧ (gmap L γ key = none → Maps.has D kl = false)) {x c : Value} {kl : Lit} (hx : keyOf Try.prog 66 x = some kl) {y : DataW Value × List MemPlace} (hy : Rid c = some y) (hat : ∀ zd, D.atKey kl zd = y.1) : ∃ p, p ∈ fps L ∧ x = kv p ∧ c = gptr γ p := by
  have hy' : y = (.held c, []) := by unfold Rid at hy; cases hy; rfl
  subst hy'
  cases e : gmap L γ x with
  | none =>
    have h := (hR x kl hx).2 e
    rw [Maps.has_true_of_atKey hat] at h
    cases h
  | some u =>
    obtain ⟨p, hp, h1, h2⟩ := gmap_some e
    have h := ((hR x kl hx).1 u e).2 (.held c)
    rw [hat] at h
    injection h with h
    exact ⟨p, hp, h1, h.trans h2⟩
theorem num_of {L : List (Int × Fp)} {p : Fp} {D : DataW Value} (hR : ∀ key kl, keyOf Try.prog 3 key = some kl → (∀ v, nmap L p key = some v → Maps.has D kl = true ∧ ∀ z, D.atKey kl z = .held v) ∧ (nmap L p key = none → Maps.has D kl = false)) {x c : Value} {kl : Lit} (hx : keyOf Try.prog 3 x = some kl) {y : DataW Value × List MemPlace} (hy : Rid c = some y) (hat : ∀ zd, D.atKey kl zd = y.1) : ∃ z, look L z = some p ∧ x = .int .i64 z ∧ c = .agg #[] := by
  have hy' : y = (.held c, []) := by unfold Rid at hy; cases hy; rfl
  subst hy'
  cases e : nmap L p x with
  | none =>
    have h := (hR x kl hx).2 e
    rw [Maps.has_true_of_atKey hat] at h
    cases h
  | some u =>
    have h := ((hR x kl hx).1 u e).2 (.held c)
    rw [hat] at h
    injection h with h
    unfold nmap at e
    split at e
    · rename_i z
      split at e
      · rename_i hz
        cases e
        exact ⟨z, hz, rfl, h⟩
      · cases e
    · cases e
theorem sub_len {L : List (Int × Fp)} {xs : List Int} (hn : xs.Nodup) (h : ∀ z ∈ xs, ∃ p, look L z = some p) : xs.length ≤ L.length := by
  have hs : xs ⊆ L.map (·.1) := fun z hz => by
    obtain ⟨p, hp⟩ := h z hz
    exact List.mem_map.2 ⟨_, look_mem hp, rfl⟩
  have := List.Nodup.length_le_of_subset hn hs
  simpa using this
theorem col_len {L : List (Int × Fp)} (_ : Ids L) {P : List Ft → Bool} {left : Lit → Bool} {V : List Fp} {xs : List Int} (h : Col L P left V xs) : xs.length ≤ L.length :=
  sub_len h.nd fun z hz => by obtain ⟨p, _, _, hp⟩ := (h.mem z).1 hz; exact ⟨p, hp⟩
theorem col_cul_len {L : List (Int × Fp)} (_ : Ids L) {P : List Ft → Bool} {left l2 : Lit → Bool} {V : List Fp} {xs U : List Int} {p : Fp} (h : Col L P left V xs) (hp : p ∉ V) (hU : Cul L p l2 U) : (xs ++ U).length ≤ L.length := by
  refine sub_len ?_ fun z hz => ?_
  · rw [List.nodup_append]
    refine ⟨h.nd, hU.nd, fun x hx y hy e => ?_⟩
    subst e
    obtain ⟨q, hq, _, hq2⟩ := (h.mem x).1 hx
    have := hU.sub x hy
    rw [hq2] at this
    cases this
    exact hp hq
  · rcases List.mem_append.1 hz with hz | hz
    · obtain ⟨q, _, _, hq⟩ := (h.mem z).1 hz; exact ⟨q, hq⟩
    · exact ⟨p, hU.sub z hz⟩

set_option maxRecDepth 100000 in
set_option maxHeartbeats 16000000 in
theorem fitting43_all (w : World) (bx m1 m2 K : Nat) (L : List (Int × Fp)) (γ : Fp → Nat × Nat) (hris : Rise L) (hlen : L.length ≤ 1048576) (P : List Ft → Bool) (ba : Nat) (t : T) (s : Value) (hr : t.rightW = 0) (hsh : Short t) (W : World) (hI : Ixs w bx m1 m2 K L γ W) (ha : ArgsAt W s t.args)
    (hcl : ∀ Z v l, Below W.heap.size W Z → FtAt Z v l → Calls Try.prog 43 #[v, .pointer (some ⟨ba, 0, none⟩)] Z fun e Z' => e = .returned (.bool (P l)) ∧ Below Z.heap.size Z Z') :
    Calls Try.prog 41 #[.pointer (some ⟨bx, 0, none⟩), tval t s, .func (.func 43) #[] #[.pointer (some ⟨ba, 0, none⟩)]] W fun e W' => ∃ v, e = .returned v ∧ RowAt (fun k : Int => .int .i64 k) W' v (fitIds L P) ∧ Below W.heap.size W W' := by
  obtain ⟨W1, h1⟩ : ∃ X, W.alloc (tbox t s) = X := ⟨_, rfl⟩
  have b1 : Below W.heap.size W W1 := by rw [← h1]; exact below_box _ _
  have s1 : W1.heap.size = W.heap.size + 1 := by rw [← h1]; simp
  obtain ⟨x0, x1, x2⟩ := tbox_cells W t s
  rw [h1] at x0 x1 x2
  have hc39 := tright_any t s W1 (ArgsAt.keep b1 (Nat.le_refl _) ha) hsh
  rw [hr] at hc39
  have HA : Hid (∀ Z, Below W.heap.size W Z → Ixs w bx m1 m2 K L γ Z) := fun Z hZ => hI.keep hZ
  have HCL : Hid (∀ Z v l, Below W.heap.size W Z → FtAt Z v l → Calls Try.prog 43 #[v, .pointer (some ⟨ba, 0, none⟩)] Z fun e Z' => e = .returned (.bool (P l)) ∧ Below Z.heap.size Z Z') := hcl
  have HB : Hid (Below W.heap.size W W1) := b1
  have HLt : Hid (m1 < W.heap.size ∧ ∀ p ∈ fps L, (γ p).2 < W.heap.size) := ⟨by obtain ⟨n, _, hg⟩ := hI.gr; exact hg.lt, fun p hp => (hI.grp p hp).nu.lt⟩
  have HRi : Hid (Rise L ∧ ∀ e ∈ L, Fit64 e.1 ∧ e.2.ok) := ⟨hris, hI.fit⟩
  obtain ⟨i0, hi0, hz0, hz1, hz2⟩ := info_parts Try.info3q
  obtain ⟨sa, sc, rfl, _, _⟩ := ha.slice
  clear b1 ha hI hr hsh hcl hris
  go_enter Try.func41, Try.ntmps41
  try rw [h1]
  go_wp2_with fail
  try rw [h1]
  refine hc39.mono ?_
  rintro e W2 ⟨rfl, b2⟩
  have HB2 : Hid (Below W.heap.size W W2) := HB.out.trans (b2.mono HB.out.size)
  have hI2 := HA.out W2 HB2.out
  obtain ⟨n, hn, D, hown, hDs, hRel⟩ := hI2.gr
  have c0 : W2.cell? ⟨bx, 0, none⟩ = some (.map (some m1)) := by simp [World.cell?, hI2.box]
  have HRel : Hid (∀ key kl, keyOf Try.prog 66 key = some kl → (∀ v, gmap L γ key = some v → Maps.has D kl = true ∧ ∀ z, D.atKey kl z = .held v) ∧ (gmap L γ key = none → Maps.has D kl = false)) := hRel
  clear hc39 x0 x1 x2 hI2 hRel b2
  go_wp2_with (first | (at_range; refine wpList_range_own _ rfl _ 72 rfl 66 77 keyed66 Try.underlying72 Rid m1 n D rfl hown ?_; intro w0 hrg0 hg0 hs0) | go_in)
  go_frame
  have B0 : Below W.heap.size W w0 := HB2.out.trans (below_of_grown hg0 HB2.out.size (fun r e => by cases e))
  have hr1 : Hid (W.heap.size ≤ W2.heap.size) := HB2.out.size
  obtain ⟨r1, hr1e⟩ : ∃ n, W2.heap.size = n := ⟨_, rfl⟩
  rw [hr1e] at hrg0 hr1 ⊢
  have HC0 : Hid (Col L P (Maps.has D) [] []) := ⟨fun p hp => (by cases hp), fun p hp kl hk => by
    have := ((HRel.out (kv p) kl hk).1 _ (gmap_in hp)).1
    simp [this], List.nodup_nil, fun z => by simp⟩
  have H0 : Hid (w0.ranges Try.prog 66 Rid m1 r1 n D (Maps.has D) (Maps.size D) ∧ Below W.heap.size W w0) := ⟨hrg0, B0⟩
  clear hown c0 hg0 hs0 hrg0 B0 hr1e
  go_loopw [7] (fun vl wr => ∃ (la : Option Addr) (ln lc : Nat), vl = .slice la ln lc ∧ Hid (∃ left cnt V xs, wr.ranges Try.prog 66 Rid m1 r1 n D left cnt ∧ Below W.heap.size W wr ∧ r1 < wr.heap.size ∧ Col L P left V xs ∧ wr.ownsRow (r1 + 1) 3 1 (.slice la ln lc) ln (xs.map (Value.int .i64)))) (fun _ wr => wr.rangeLeft m1 r1)
  case atStart => exact ⟨none, 0, 0, rfl, _, _, [], [], H0.out.1, H0.out.2, H0.out.1.lt, HC0.out, World.ownsRow_nil _ _ _ _⟩
  case round =>
    clear H0 HC0
    obtain ⟨la, ln, lc, rfl, HL⟩ := hrel
    obtain ⟨left, cnt, V, xs, hrg, hB, hlr, hC, hrow⟩ := HL.out
    have hxl : xs.length ≤ L.length := col_len HRi.out.1.ids hC
    have hln : xs.length = ln := by simpa using hrow.1
    go_wp2_with (first
      | (at_next; refine wpList_next_ranges (α := Value) (β := Value) _ rfl _ rfl 66 keyed66 Rid (fun v : Value => v) (fun v : Value => v) (fun key kl hk => ⟨key, rfl⟩) (fun v _ _ => ⟨v, rfl⟩) m1 r1 n _ _ _ rfl hrg ?_ ?_)
      | go_in)
    · intro hc0 hl0
      have hsort := sort_own (r1 + 1) (.slice la ln lc) ln xs wr hrow (by omega)
      rw [sorted_fit HRi.out.1 hC.nd (hC.all (fun e he => (HRi.out.2 e he).2) hl0)] at hsort
      have HR : Hid (Below W.heap.size W wr ∧ W.heap.size ≤ r1 ∧ ∀ g, (Value.slice la ln lc).ownBlock = some g → r1 + 1 ≤ g) := ⟨hB, hr1.out, fun g hg => (row_block hrow hg).1⟩
      clear hrg hB hl0 hc0 hlr HL hC hrow hxl hln
      go_wp2_with (first | (go_at_call 62; refine hsort.mono ?_; rintro e w5 ⟨rfl, hr5, hg5⟩))
      go_ret
      refine ⟨_, rfl, nums_row hr5, HR.out.1.trans (below_of_grown hg5 HR.out.1.size (fun r e => ?_))⟩
      have := HR.out.2.2 r e
      have := HR.out.2.1
      omega
    · intro x cc kl yd yp w2 cnt2 hkx hlk hv hat hrg2 hlt hg2 hs2 hen
      obtain ⟨p, hp, rfl, rfl⟩ := entry_of HRel.out hkx hv hat
      have B2 : Below W.heap.size W w2 := hB.trans (below_of_grown hg2 hB.size (fun r e => by cases e; exact hr1.out))
      have hI2 := HA.out w2 B2
      have hG := hI2.grp p hp
      have hc43 := HCL.out w2 _ p.list B2 (FtAt.of_group hG.gb)
      have hs4 := slice4 (γ p).1
      have hrow2 := row_keep hrow (W' := w2) (fun g hg => by
        obtain ⟨hg1, cq, hcq⟩ := row_block hrow hg
        exact hg2.block g (Array.getElem?_eq_some_iff.1 hcq).1 (by simp; omega))
      have HW2 : Hid (w2.ranges Try.prog 66 Rid m1 r1 n D (fun z => left z && !z.sameKey kl) cnt2 ∧ Below W.heap.size W w2 ∧ r1 < w2.heap.size ∧ w2.ownsRow (r1 + 1) 3 1 (.slice la ln lc) ln (xs.map (Value.int .i64))) := ⟨hrg2, B2, hrg2.lt, hrow2⟩
      have HMe : Hid (wr.rangeLeft m1 r1 = cnt ∧ cnt2 < cnt) := ⟨hrg.left_eq, hlt⟩
      have HCo : Hid (Col L P left V xs ∧ p ∈ fps L ∧ keyOf Try.prog 66 (kv p) = some kl ∧ p ∉ V) := ⟨hC, hp, hkx, fun hm => by rw [(hC.left p hp kl hkx).1 hm] at hlk; cases hlk⟩
      have HGe : Hid (∀ Z, Below W.heap.size W Z → Grp Z (γ p).1 (γ p).2 p L) := fun Z hZ => (HA.out Z hZ).grp p hp
      have HM3 : Hid ((γ p).2 < W.heap.size) := HLt.out.2 p hp
      obtain ⟨g, hg⟩ : ∃ g, (γ p).1 = g := ⟨_, rfl⟩
      obtain ⟨m3, hm3⟩ : ∃ g, (γ p).2 = g := ⟨_, rfl⟩
      simp only [gptr, hg, hm3] at hen hc43 hs4 HGe HM3 ⊢
      clear hrg hB hlr HL hkx hlk hv hat hrg2 hlt hg2 hs2 B2 hI2 hG hC hrow hrow2 hp hg hm3
      cases hfb : P p.list
      · rw [hfb] at hc43
        have HNC : Hid (Col L P (fun z => left z && !z.sameKey kl) (V ++ [p]) xs) := HCo.out.1.step HCo.out.2.1 HCo.out.2.2.1 HCo.out.1.nd (fun z => by simp [hfb])
        clear hfb
        go_wp2_with fail
        refine hc43.mono ?_
        rintro e w3 ⟨rfl, b3⟩
        have hrg3 := HW2.out.1.kept (grown_of_below b3 none) (by simp) (by simp)
        have hrow3 := row_keep HW2.out.2.2.2 (W' := w3) (fun g hg => by
          obtain ⟨hg1, cq, hcq⟩ := row_block HW2.out.2.2.2 hg
          exact b3.block g (Array.getElem?_eq_some_iff.1 hcq).1)
        have HW3 : Hid (w3.ranges Try.prog 66 Rid m1 r1 n D (fun z => left z && !z.sameKey kl) cnt2 ∧ Below W.heap.size W w3 ∧ r1 < w3.heap.size ∧ w3.ownsRow (r1 + 1) 3 1 (.slice la ln lc) ln (xs.map (Value.int .i64))) := ⟨hrg3, HW2.out.2.1.trans (b3.mono HW2.out.2.1.size), hrg3.lt, hrow3⟩
        clear hrg3 b3 hen hc43 hrow3
        go_wp2
        go_roundw
        case rel => exact ⟨la, ln, lc, rfl, _, cnt2, _, _, HW3.out.1, HW3.out.2.1, HW3.out.2.2.1, HNC.out, HW3.out.2.2.2⟩
        case measure => rw [HW3.out.1.left_eq, HMe.out.1]; exact HMe.out.2
      · rw [hfb] at hc43
        have HFB : Hid (P p.list = true) := hfb
        clear hfb
        go_wp2_with fail
        refine hc43.mono ?_
        rintro e w3 ⟨rfl, b3⟩
        have hrg3 := HW2.out.1.kept (grown_of_below b3 none) (by simp) (by simp)
        have hrow3 := row_keep HW2.out.2.2.2 (W' := w3) (fun g hg => by
          obtain ⟨hg1, cq, hcq⟩ := row_block HW2.out.2.2.2 hg
          exact b3.block g (Array.getElem?_eq_some_iff.1 hcq).1)
        have HW3 : Hid (w3.ranges Try.prog 66 Rid m1 r1 n D (fun z => left z && !z.sameKey kl) cnt2 ∧ Below W.heap.size W w3 ∧ r1 < w3.heap.size ∧ w3.ownsRow (r1 + 1) 3 1 (.slice la ln lc) ln (xs.map (Value.int .i64))) := ⟨hrg3, HW2.out.2.1.trans (b3.mono HW2.out.2.1.size), hrg3.lt, hrow3⟩
        have hG3 := HGe.out w3 HW3.out.2.1
        obtain ⟨D3, hown3, hDs3, hRel3⟩ := hG3.nu
        have d0 : w3.cell? ⟨g, 12, none⟩ = some (.map (some m3)) := cell_store hG3.gb rfl
        have HRel3 : Hid (∀ key kl, keyOf Try.prog 3 key = some kl → (∀ v, nmap L p key = some v → Maps.has D3 kl = true ∧ ∀ z, D3.atKey kl z = .held v) ∧ (nmap L p key = none → Maps.has D3 kl = false)) := hRel3
        clear hrg3 b3 hen hc43 hRel3 hG3 HW2 hrow3
        go_wp2_with (first | (at_range; refine wpList_range_own _ rfl _ 80 rfl 3 79 keyed3 Try.underlying80 Rid m3 (cntF L p) D3 rfl hown3 ?_; intro w4 hrg4 hg4 hs4') | go_in)
        go_frame
        have hrg14 := HW3.out.1.kept hg4 (by simp) (by simp)
        have hB3 := HW3.out.2.1
        have B4 : Below W.heap.size W w4 := hB3.trans (below_of_grown hg4 hB3.size (fun r e => by cases e))
        have hrow4 := row_keep HW3.out.2.2.2 (W' := w4) (fun g hg => by
          obtain ⟨hg1, cq, hcq⟩ := row_block HW3.out.2.2.2 hg
          exact hg4.block g (Array.getElem?_eq_some_iff.1 hcq).1 (by simp))
        have hr2 : Hid (W.heap.size ≤ w3.heap.size) := hB3.size
        have hrb : ∀ g, (Value.slice la ln lc).ownBlock = some g → g < w3.heap.size := fun g hg => by
          obtain ⟨hg1, cq, hcq⟩ := row_block HW3.out.2.2.2 hg
          exact (Array.getElem?_eq_some_iff.1 hcq).1
        obtain ⟨r2, hr2e⟩ : ∃ n, w3.heap.size = n := ⟨_, rfl⟩
        have hne : r1 ≠ r2 := by have := HW3.out.2.2.1; omega
        have hlt12 : r1 < r2 := by have := HW3.out.2.2.1; omega
        rw [hr2e] at hrg4 hr2 hrb ⊢
        have HC4 : Hid (Cul L p (Maps.has D3) []) := ⟨List.nodup_nil, fun z hz => (by cases hz), fun z hz => by
          have hf := HRi.out.2 _ (look_mem hz)
          have := ((HRel3.out (.int .i64 z) _ (key3 hf.1)).1 (.agg #[]) (by simp [nmap, hz])).1
          simp [this]⟩
        have H4 : Hid (w4.ranges Try.prog 3 Rid m3 r2 (cntF L p) D3 (Maps.has D3) (Maps.size D3) ∧ w4.ranges Try.prog 66 Rid m1 r1 n D (fun z => left z && !z.sameKey kl) cnt2 ∧ Below W.heap.size W w4 ∧ w4.ownsRow (r1 + 1) 3 1 (.slice la ln lc) ln (xs.map (Value.int .i64)) ∧ (∀ g, (Value.slice la ln lc).ownBlock = some g → g ≠ r2)) := ⟨hrg4, hrg14, B4, hrow4, fun g hg => by have := hrb g hg; omega⟩
        have HNE : Hid (m1 < W.heap.size ∧ m3 < W.heap.size ∧ W.heap.size ≤ r1 ∧ r1 < r2) := ⟨HLt.out.1, HM3.out, hr1.out, hlt12⟩
        clear hown3 d0 hg4 hs4' hrg4 hrg14 B4 hB3 hr2e hne hlt12 HW3 hrow4 hrb
        go_loopw [7] (fun vl wr => ∃ (la : Option Addr) (ln lc : Nat), vl = .slice la ln lc ∧ Hid (∃ left3 cnt3 U, wr.ranges Try.prog 3 Rid m3 r2 (cntF L p) D3 left3 cnt3 ∧ wr.ranges Try.prog 66 Rid m1 r1 n D (fun z => left z && !z.sameKey kl) cnt2 ∧ Below W.heap.size W wr ∧ Cul L p left3 U ∧ wr.ownsRow (r1 + 1) 3 1 (.slice la ln lc) ln ((xs ++ U).map (Value.int .i64)) ∧ (∀ g, (Value.slice la ln lc).ownBlock = some g → g ≠ r2) ∧ ln ≤ 1048576)) (fun _ wr => wr.rangeLeft m3 r2)
        case atStart => exact ⟨la, ln, lc, rfl, _, _, [], H4.out.1, H4.out.2.1, H4.out.2.2.1, HC4.out, by simpa using H4.out.2.2.2.1, H4.out.2.2.2.2, by omega⟩
        case round =>
          clear H4 HC4
          obtain ⟨la, ln, lc, rfl, HL⟩ := hrel
          obtain ⟨left3, cnt3, U, hrg, hrgo, hB, hU, hrow, hnr, hlnb⟩ := HL.out
          go_wp2_with (first
            | (at_next; refine wpList_next_ranges (α := Value) (β := Value) _ rfl _ rfl 3 keyed3 Rid (fun v : Value => v) (fun v : Value => v) (fun key kl hk => ⟨key, rfl⟩) (fun v _ _ => ⟨v, rfl⟩) m3 r2 (cntF L p) _ _ _ rfl hrg ?_ ?_)
            | go_in)
          · intro hc0 hl0
            have HNC : Hid (Col L P (fun z => left z && !z.sameKey kl) (V ++ [p]) (xs ++ U)) := HCo.out.1.step HCo.out.2.1 HCo.out.2.2.1 (by
              rw [List.nodup_append]
              refine ⟨HCo.out.1.nd, hU.nd, fun x hx y hy e => ?_⟩
              subst e
              obtain ⟨q, hq, _, hq2⟩ := (HCo.out.1.mem x).1 hx
              have := hU.sub x hy
              rw [hq2] at this
              cases this
              exact HCo.out.2.2.2 hq) (fun z => by
              rw [List.mem_append]
              refine or_congr Iff.rfl ⟨fun hz => ⟨HFB.out, hU.sub z hz⟩, fun ⟨_, hz⟩ => (hU.left z hz).2 (hl0 _)⟩)
            have HR : Hid (wr.ownsRow (r1 + 1) 3 1 (.slice la ln lc) ln ((xs ++ U).map (Value.int .i64)) ∧ Below W.heap.size W wr ∧ wr.ranges Try.prog 66 Rid m1 r1 n D (fun z => left z && !z.sameKey kl) cnt2) := ⟨hrow, hB, hrgo⟩
            clear hrg hrgo hB hrow hl0 hc0 HL hU hnr hlnb
            go_wp2
            go_roundw
            case rel => exact ⟨la, ln, lc, rfl, _, cnt2, _, _, HR.out.2.2, HR.out.2.1, HR.out.2.2.lt, HNC.out, HR.out.1⟩
            case measure => rw [HR.out.2.2.left_eq, HMe.out.1]; exact HMe.out.2
          · intro x cc kl3 yd yp w5 cnt5 hkx hlk hv hat hrg5 hlt hg5 hs5 hen5
            obtain ⟨z, hz, rfl, rfl⟩ := num_of HRel3.out hkx hv hat
            have hfz := (HRi.out.2 _ (look_mem hz)).1
            obtain rfl : Lit.int .i64 z = kl3 := by rw [key3 hfz] at hkx; cases hkx; rfl
            have B5 : Below W.heap.size W w5 := hB.trans (below_of_grown hg5 hB.size (fun r e => by cases e; exact hr2.out))
            have hrgo5 := hrgo.kept hg5 (by simp; have := HNE.out; omega) (by simp; have := HNE.out; omega)
            have hM5 : Hid (wr.rangeLeft m3 r2 = cnt3 ∧ cnt5 < cnt3) := ⟨hrg.left_eq, hlt⟩
            have hrow5 := row_keep hrow (W' := w5) (fun g hg => by
              obtain ⟨hg1, cq, hcq⟩ := row_block hrow hg
              exact hg5.block g (Array.getElem?_eq_some_iff.1 hcq).1 (by simp; exact hnr g hg))
            have hU5 := hU.step hz hlk
            have hr25 := hrg5.lt
            have hbnd : ln + 1 ≤ 1048576 := by
              have h1 : (xs ++ (U ++ [z])).length ≤ L.length := col_cul_len HRi.out.1.ids HCo.out.1 HCo.out.2.2.2 hU5
              have h2 : (xs ++ U).length = ln := by simpa using hrow.1
              simp at h1 h2
              omega
            have H5 : Hid (w5.ranges Try.prog 3 Rid m3 r2 (cntF L p) D3 (fun k => left3 k && !k.sameKey (.int .i64 z)) cnt5 ∧ w5.ranges Try.prog 66 Rid m1 r1 n D (fun z => left z && !z.sameKey kl) cnt2 ∧ Below W.heap.size W w5 ∧ Cul L p (fun k => left3 k && !k.sameKey (.int .i64 z)) (U ++ [z]) ∧ r2 < w5.heap.size) := ⟨hrg5, hrgo5, B5, hU5, hr25⟩
            have hrow5a := row_keep hrow5 (W' := w5.alloc (.cells #[.int .i64 z] 3)) (fun g hg => by
              obtain ⟨hg1, cq, hcq⟩ := row_block hrow5 hg
              exact (below_box w5 (.cells #[.int .i64 z] 3)).block g (Array.getElem?_eq_some_iff.1 hcq).1)
            have HRB : Hid (∀ g, (Value.slice la ln lc).ownBlock = some g → r1 + 1 ≤ g ∧ g ≠ r2) := fun g hg => ⟨(row_block hrow hg).1, hnr g hg⟩
            have hb15 : r1 + 1 ≤ (w5.alloc (.cells #[.int .i64 z] 3)).heap.size := by rw [World.size_alloc]; have := HNE.out; omega
            clear hrg hrgo hB HL hkx hlk hv hat hrg5 hlt hg5 hs5 B5 hrgo5 hrow hrow5 hU hU5 hnr hr25 hlnb hfz hz
            go_wp2_with (first
              | (at_builtin; refine wpList_append_own_at _ rfl _ _ 50 rfl (r1 + 1) 3 i0 _ 1 8 Try.underlying50 hi0 hz0 hz1 hz2 rfl (by decide) (.slice la ln lc) ln _ rfl hrow5a ⟨w5.heap.size, 0, none⟩ 1 1 [.int .i64 z] rfl rfl (fun j u hj => by rw [Addr.add_mid, Nat.zero_add, cell_of_row _ _ _ _ 3 (0, 0) (MapKept.heap_alloc w5 _).1]; simpa using hj) (by intro u hu; obtain rfl : u = .int .i64 z := (by simpa using hu); rfl) (by unfold maxLen; omega) (by omega) hb15 ?_; intro v6 w6 hown6 hg6 hnil6 hat6))
            have b56 := below_box w5 (.cells #[.int .i64 z] 3)
            have hrg6 := (H5.out.1.alloc (.cells #[.int .i64 z] 3)).kept hg6 (fun e => by have := HRB.out _ e.symm; have := HNE.out; omega) (fun e => (HRB.out _ e.symm).2 rfl)
            have hrgo6 := (H5.out.2.1.alloc (.cells #[.int .i64 z] 3)).kept hg6 (fun e => by have := HRB.out _ e.symm; have := HNE.out; omega) (fun e => by have := HRB.out _ e.symm; omega)
            have b5a : Below W.heap.size W (w5.alloc (.cells #[.int .i64 z] 3)) := H5.out.2.2.1.trans (b56.mono H5.out.2.2.1.size)
            have B6 : Below W.heap.size W w6 := b5a.trans (below_of_grown hg6 b5a.size (fun r e => by have := HRB.out r e; have := HNE.out; omega))
            obtain ⟨va6, vc6, rfl⟩ := row_slice hown6
            have hnr6 : ∀ g, (Value.slice va6 (ln + 1) vc6).ownBlock = some g → g ≠ r2 := fun g hg => by
              rcases hat6 with e | e
              · rw [e] at hg; exact (HRB.out g hg).2
              · rw [e] at hg
                have := H5.out.2.2.2.2
                rw [World.size_alloc] at hg
                injection hg with hg
                omega
            have H6 : Hid (w6.ranges Try.prog 3 Rid m3 r2 (cntF L p) D3 (fun k => left3 k && !k.sameKey (.int .i64 z)) cnt5 ∧ w6.ranges Try.prog 66 Rid m1 r1 n D (fun z => left z && !z.sameKey kl) cnt2 ∧ Below W.heap.size W w6 ∧ Cul L p (fun k => left3 k && !k.sameKey (.int .i64 z)) (U ++ [z]) ∧ w6.ownsRow (r1 + 1) 3 1 (.slice va6 (ln + 1) vc6) (ln + 1) ((xs ++ (U ++ [z])).map (Value.int .i64)) ∧ (∀ g, (Value.slice va6 (ln + 1) vc6).ownBlock = some g → g ≠ r2)) := ⟨hrg6, hrgo6, B6, H5.out.2.2.2.1, by simpa using hown6, hnr6⟩
            clear hown6 hg6 hnil6 hat6 b56 hrg6 hrgo6 b5a B6 hnr6 hen5 hrow5a hb15
            go_roundw
            case rel => exact ⟨va6, ln + 1, vc6, rfl, _, cnt5, _, H6.out.1, H6.out.2.1, H6.out.2.2.1, H6.out.2.2.2.1, H6.out.2.2.2.2.1, H6.out.2.2.2.2.2, hbnd⟩
            case measure => rw [H6.out.1.left_eq, hM5.out.1]; exact hM5.out.2

end Go.Proofs.Ytiklbkkimmgbcaa
