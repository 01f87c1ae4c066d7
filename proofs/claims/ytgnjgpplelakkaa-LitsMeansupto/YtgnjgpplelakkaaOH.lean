/-
  The document's interpretations: All, Few, Right.
-/
import Derived.Test.YtgnjgpplelakkaaOG
namespace Go.Proofs.Ytgnjgpplelakkaa
open Go.RowKit

theorem vs_size (t : T) : (t.vs.length : Int) ≤ t.size := by
  induction t using T.ind with
  | _ t ih =>
    have h : ∀ (l : List T), (∀ a ∈ l, a ∈ t.args) → (((l.map T.vs).flatten).length : Int) ≤ (l.map T.size).sum := by
      intro l
      induction l with
      | nil => intro _; simp
      | cons a r ihl =>
        intro hm
        have h1 := ih a (hm a (by simp))
        have h2 := ihl (fun b hb => hm b (by simp [hb]))
        simp only [List.map_cons, List.flatten_cons, List.length_append, List.sum_cons]
        omega
    have := h t.args (fun _ h => h)
    rw [T.vs_eq, T.size_eq, List.length_append]
    by_cases h0 : t.fn.size = 0
    · rw [if_pos h0]
      simp only [List.length_cons, List.length_nil]
      omega
    · rw [if_neg h0]
      simp only [List.length_nil]
      omega

theorem cvs_size : ∀ (l : List Lt), ((cvs l).length : Int) ≤ csize l
  | [] => by simp [cvs, sidesOf, csize]
  | x :: r => by
    have h1 := vs_size x.l
    have h2 := vs_size x.r
    have h3 := cvs_size r
    have e1 : cvs (x :: r) = x.l.vs ++ (x.r.vs ++ cvs r) := by simp [cvs, sidesOf]
    have e2 : csize (x :: r) = x.l.size + x.r.size + csize r := by simp [csize]
    rw [e1, e2]
    simp only [List.length_append]
    omega

theorem topN_last {l : List Int} (h : 0 < l.length) : topN l = (l[l.length - 1] + 1).toNat := by
  unfold topN
  rw [List.getLast?_eq_getElem?, List.getElem?_eq_getElem (by omega)]
theorem topN_nil {l : List Int} (h : l.length = 0) : topN l = 0 := by
  rw [List.length_eq_zero_iff.1 h]
  rfl

set_option maxRecDepth 100000 in
set_option maxHeartbeats 1000000 in
theorem allw_any (sz : Int) (rule : List Int) (vr : Value) (l : List Lt) (v : Value) (w : World) (hw : Wd sz rule vr w) (hc : ClauseAt w v l) (hsh : Shaped l) (hs : csize l ≤ 4000) :
    Calls Try.prog 35 #[wval sz vr, v] w fun e w' => e = .returned (.bool (AllB (pk sz rule) (thg sz) sz.toNat l)) ∧ Below w.heap.size w w' := by
  have hlen := csize_len l
  have hcv := cvs_size l
  have hb1 := below_box w (wbox sz vr)
  have hv := rcvars_any l v (w.alloc (wbox sz vr)) (hc.keep hb1) (by omega) (by omega)
  have hall : ∀ (W : World), Below w.heap.size w W → Calls Try.prog 68 #[wval sz vr, v, .slice none 0 0, .int .i64 ((topN ((cvs l).foldl wth []) : Nat) : Int)] W fun e w' => e = .returned (.bool (AllB (pk sz rule) (thg sz) sz.toNat l)) ∧ Below W.heap.size W w' :=
    fun W hW => all_any sz rule vr l v _ (topN_le l hsh) hsh _ [] _ 0 W (hw.keep hW) (World.ownsRow_nil _ _ _ _) (hc.keep hW) (by simp)
  have hr : ∀ z ∈ (cvs l).foldl wth [], 0 ≤ z ∧ z < 1000000 := fun z hz => by
    rcases ((wths_rise (cvs l) [] List.Pairwise.nil).2 z).1 hz with h | h
    · cases h
    · exact cvs_range hsh z h
  obtain ⟨ra, rc, rfl⟩ := hw.at_.slice
  obtain ⟨a, c, rfl⟩ := hc.slice
  obtain ⟨c0, c1⟩ := wbox_cells w sz (.slice ra rule.length rc)
  obtain ⟨W1, hW1⟩ : ∃ W1, w.alloc (wbox sz (.slice ra rule.length rc)) = W1 := ⟨_, rfl⟩
  have hsz1 : W1.heap.size = w.heap.size + 1 := by rw [← hW1]; simp
  rw [hW1] at c0 c1 hb1 hv
  obtain ⟨zs, hzs⟩ : ∃ zs, (cvs l).foldl wth [] = zs := ⟨_, rfl⟩
  rw [hzs] at hv hr hall
  have HA : Hid (∀ (W : World), Below w.heap.size w W → Calls Try.prog 68 #[wval sz (.slice ra rule.length rc), .slice a l.length c, .slice none 0 0, .int .i64 ((topN zs : Nat) : Int)] W fun e w' => e = .returned (.bool (AllB (pk sz rule) (thg sz) sz.toNat l)) ∧ Below W.heap.size W w') := hall
  have HB1 : Hid (Below w.heap.size w W1) := hb1
  have HR : Hid (∀ z ∈ zs, 0 ≤ z ∧ z < 1000000) := hr
  clear hw hc hall hb1 hsh hlen hcv hr hzs hs
  go_enter Try.func35, Try.ntmps35
  go_wp2_with fail
  first | rw [hW1] | skip
  refine hv.mono ?_
  rintro e W2 ⟨v2, k, rfl, hrow, hb2⟩
  have hi := ints_of_row hrow
  have hk : zs.length = k := by simpa using hrow.1
  subst hk
  obtain ⟨pa, pc, rfl⟩ := row_form hrow
  have HB2 : Hid (Below w.heap.size w W2) := HB1.out.trans (hb2.mono HB1.out.size)
  have d0 := kc hb2 (by omega) c0
  have d1 := kc hb2 (by omega) c1
  have hall := HA.out W2 HB2.out
  have hl9 := hi.len
  clear hrow hb2 c0 c1 hv HA
  by_cases h0 : zs.length = 0
  · rw [topN_nil h0] at hall
    have h0' : ¬ 0 < zs.length := by omega
    go_wp2_with (go_at_call 68; refine hall.mono ?_; rintro e w' ⟨rfl, hb'⟩)
    go_ret
    exact ⟨rfl, HB2.out.trans (hb'.mono HB2.out.size)⟩
  · have hp : 0 < zs.length := by omega
    obtain ⟨b, o, rfl, hbl, hcz⟩ := hi.nth (i := zs.length - 1) (by omega)
    obtain ⟨z0, z1⟩ := HR.out _ (List.getElem_mem (show zs.length - 1 < zs.length by omega))
    rw [topN_last hp] at hall
    obtain ⟨z, hz⟩ : ∃ z, zs[zs.length - 1] = z := ⟨_, rfl⟩
    rw [hz] at hall hcz z0 z1
    have e1 : (((z + 1).toNat : Nat) : Int) = z + 1 := by omega
    rw [e1] at hall
    have e2 : ((zs.length : Int) - 1) = ((zs.length - 1 : Nat) : Int) := by omega
    clear hi hz h0
    go_wp2_with (go_at_call 68; refine hall.mono ?_; rintro e w' ⟨rfl, hb'⟩)
    go_ret
    exact ⟨rfl, HB2.out.trans (hb'.mono HB2.out.size)⟩

/-- What Few tells. -/
def fewB (zs : List Int) : Bool := decide (zs.length = 0) || (decide (0 ≤ zs.getD 0 0) && decide (zs.getD (zs.length - 1) 0 < 5))
theorem few_nil {zs : List Int} (h : zs.length = 0) : true = fewB zs := by simp [fewB, h]
theorem few_pos {zs : List Int} {y z : Int} (h : 0 < zs.length) (hy : zs[0]? = some y) (hz : zs[zs.length - 1]? = some z) : (decide (0 ≤ y) && decide (z < 5)) = fewB zs := by
  have h0 : decide (zs.length = 0) = false := decide_eq_false (by omega)
  unfold fewB
  rw [h0, List.getD_eq_getElem?_getD, List.getD_eq_getElem?_getD, hy, hz]
  rfl
/-- What Right tells. -/
def wrB (sz : Int) (rule : List Int) : Bool := decide (1 ≤ sz) && (decide (sz ≤ 3) && (decide (0 < rule.length) && decide (rule.length ≤ 64)))

set_option maxRecDepth 100000 in
set_option maxHeartbeats 1000000 in
theorem few_any (l : List Lt) (v : Value) (w : World) (hc : ClauseAt w v l) (hs : csize l ≤ 4000) :
    Calls Try.prog 33 #[v] w fun e w' => e = .returned (.bool (fewB ((cvs l).foldl wth []))) ∧ Below w.heap.size w w' := by
  have hlen := csize_len l
  have hcv := cvs_size l
  have hv := rcvars_any l v w hc (by omega) (by omega)
  obtain ⟨a, c, rfl⟩ := hc.slice
  obtain ⟨zs, hzs⟩ : ∃ zs, (cvs l).foldl wth [] = zs := ⟨_, rfl⟩
  rw [hzs] at hv ⊢
  clear hc hlen hcv hs hzs
  go_enter Try.func33, Try.ntmps33
  go_wp2_with fail
  refine hv.mono ?_
  rintro e W2 ⟨v2, k, rfl, hrow, hb2⟩
  have hi := ints_of_row hrow
  have hk : zs.length = k := by simpa using hrow.1
  subst hk
  obtain ⟨pa, pc, rfl⟩ := row_form hrow
  have hl9 := hi.len
  clear hrow hv
  by_cases h0 : zs.length = 0
  · have e0 : ((zs.length : Int) == 0) = true := by simp [h0]
    go_wp2
    go_ret
    exact ⟨ret_bool (few_nil h0), hb2⟩
  · have hp : 0 < zs.length := by omega
    have e0 : ((zs.length : Int) == 0) = false := by rw [beq_eq_false_iff_ne]; omega
    obtain ⟨b, o, rfl, hbl, hcz⟩ := hi.nth (i := zs.length - 1) (by omega)
    obtain ⟨b', o', e3, _, hc0⟩ := hi.nth (i := 0) hp
    cases e3
    rw [Nat.add_zero] at hc0
    obtain ⟨z, hz⟩ : ∃ z, zs[zs.length - 1] = z := ⟨_, rfl⟩
    obtain ⟨y, hy⟩ : ∃ y, zs[0] = y := ⟨_, rfl⟩
    rw [hz] at hcz
    rw [hy] at hc0
    have HF : Hid ((decide (0 ≤ y) && decide (z < 5)) = fewB zs) := few_pos hp (by rw [List.getElem?_eq_getElem hp, hy]) (by rw [List.getElem?_eq_getElem (show zs.length - 1 < zs.length by omega), hz])
    have e2 : ((zs.length : Int) - 1) = ((zs.length - 1 : Nat) : Int) := by omega
    clear hi hz hy h0
    go_wp2
    all_goals go_ret
    all_goals refine ⟨ret_bool ?_, hb2⟩
    all_goals rw [← HF.out]
    all_goals first | (simp only [*, decide_true, Bool.true_and]; done) | (simp; omega)

set_option maxRecDepth 100000 in
theorem wright_any (sz : Int) (rule : List Int) (vr : Value) (w : World) (hr : IntsAt w vr rule) :
    Calls Try.prog 34 #[wval sz vr] w fun e w' => e = .returned (.bool (wrB sz rule)) ∧ Below w.heap.size w w' := by
  obtain ⟨ra, rc, rfl⟩ := hr.slice
  obtain ⟨c0, c1⟩ := wbox_cells w sz (.slice ra rule.length rc)
  have hl := hr.len
  clear hr
  go_enter Try.func34, Try.ntmps34
  go_wp2
  all_goals go_ret
  all_goals refine ⟨ret_bool ?_, below_box w _⟩
  all_goals unfold wrB
  all_goals first | (simp only [*, decide_true, decide_false, Bool.true_and, Bool.false_and, Bool.and_false]; done) | (simp; omega) | (simp [*]; done) | (simp [*]; omega)

theorem wr_true {sz : Int} {rule : List Int} (h : wrB sz rule = true) : 1 ≤ sz ∧ sz ≤ 3 ∧ 0 < rule.length := by
  unfold wrB at h
  simp only [Bool.and_eq_true, decide_eq_true_eq] at h
  exact ⟨h.1, h.2.1, h.2.2.1⟩

end Go.Proofs.Ytgnjgpplelakkaa
