import Derived.Test.YtgnjgpplelakkaaOA
import Derived.Test.YtgnjgpplelakkaaOC

/-
  The document's interpretations: Value.
-/
namespace Go.Proofs.Ytgnjgpplelakkaa
open Go.RowKit

/-- A world in memory, its numbers as they should be. -/
structure Wd (sz : Int) (rule : List Int) (vr : Value) (W : World) : Prop where
  lo : 1 ≤ sz
  hi : sz ≤ 3
  pos : 0 < rule.length
  at_ : IntsAt W vr rule

theorem Wd.keep {sz : Int} {rule : List Int} {vr : Value} {W W' : World} (h : Wd sz rule vr W) (hb : Below W.heap.size W W') : Wd sz rule vr W' := ⟨h.lo, h.hi, h.pos, h.at_.keep hb⟩

/-- Value's contract. -/
def ValueAt (sz : Int) (rule : List Int) (vr : Value) (xs : List Int) (vx : Value) (t : T) : Prop :=
  ∀ (sl : Value) (w : World), Wd sz rule vr w → IntsAt w vx xs → ArgsAt w sl t.args → t.shape = true →
    Calls Try.prog 116 #[wval sz vr, tval t sl, vx] w fun e w' => e = .returned (.int .i64 (t.val (pk sz rule) (envL (thg sz) xs))) ∧ Below w.heap.size w w'

theorem below_two (w : World) (o o' : Obj) : Below w.heap.size w ((w.alloc o).alloc o') := (below_box w o).trans ((below_box (w.alloc o) o').mono (by simp))

set_option maxRecDepth 100000 in
set_option maxHeartbeats 1000000 in
theorem value_var (sz : Int) (rule : List Int) (vr : Value) (xs : List Int) (vx : Value) (t : T) (h0 : t.fn.size = 0) : ValueAt sz rule vr xs vx t := by
  intro sl w hw hx ha hsh
  have HV : Hid (t.val (pk sz rule) (envL (thg sz) xs) = envL (thg sz) xs t.v) := by
    show _ = _
    rw [T.val_eq, if_pos h0]
  have hdd : t.fn.toList.isEmpty = true := by rw [ba_isEmpty]; exact decide_eq_true h0
  obtain ⟨ra, rc, rfl⟩ := hw.at_.slice
  obtain ⟨xa, xc, rfl⟩ := hx.slice
  obtain ⟨sa, sc, rfl, _, _⟩ := ha.slice
  have hb2 := below_two w (wbox sz (.slice ra rule.length rc)) (tbox t (.slice sa t.args.length sc))
  have hbx := below_box (w.alloc (wbox sz (.slice ra rule.length rc))) (tbox t (.slice sa t.args.length sc))
  obtain ⟨c0, c1⟩ := wbox_cells w sz (.slice ra rule.length rc)
  have d0 := kc hbx (by simp) c0
  have d1 := kc hbx (by simp) c1
  obtain ⟨t0, t1, t2⟩ := tbox_cells (w.alloc (wbox sz (.slice ra rule.length rc))) t (.slice sa t.args.length sc)
  rw [World.size_alloc] at t0 t1 t2
  have hxl := hx.len
  have hX2 := hx.keep hb2
  have hth : ∀ n, ∀ W, Calls Try.prog 125 #[wval sz (.slice ra rule.length rc), .int .i64 n] W fun e w' => e = .returned (.int .i64 (thg sz n)) ∧ Below W.heap.size W w' := fun n W => thing_any sz hw.lo hw.hi _ n W
  clear c0 c1 hbx h0 hx ha
  by_cases hv : 0 ≤ t.v ∧ t.v < xs.length
  · obtain ⟨i, hi⟩ : ∃ i : Nat, t.v = i := ⟨t.v.toNat, by omega⟩
    have hlt : i < xs.length := by omega
    have HE : Hid (envL (thg sz) xs t.v = thg sz xs[i]) := by
      show envL (thg sz) xs t.v = _
      unfold envL
      rw [if_pos hv, hi, Int.toNat_natCast, List.getD_eq_getElem?_getD, List.getElem?_eq_getElem hlt, Option.getD_some]
    obtain ⟨b, o, rfl, hbl, hcx⟩ := hX2.nth hlt
    rw [hi] at t0
    obtain ⟨n, hn⟩ : ∃ n, xs[i] = n := ⟨_, rfl⟩
    rw [hn] at hcx
    have HN : Hid (xs[i] = n) := hn
    have HI : Hid (t.v = i) := hi
    have hil : (i : Int) < xs.length := by omega
    clear hn hi hv
    have f0 := fun p => cell_far (by simp; omega) d0 p
    have f1 := fun p => cell_far (by simp; omega) d1 p
    have f2 := fun p => cell_far (by simp) t0 p
    have f3 := fun p => cell_far hbl hcx p
    have i0 : (0 : Int) ≤ (i : Int) := by omega
    go_enter Try.func116, Try.ntmps116
    go_wp2
    refine wp_region_far (by kernel_rfl) ?_
    repeat (first | go_big_quiet_step (exact calls_far (fun W _ => hth _ W) _) | quiet_step (exact calls_far (fun W _ => hth _ W) _))
    refine wpQuiet_nil ?_
    intro _ hw'
    obtain ⟨pf, rfl⟩ := hw'
    go_wp2
    go_ret
    exact ⟨ret_i64 (by rw [HV.out, HE.out, HN.out]), hb2.trans ((below_far _ pf).mono hb2.size)⟩
  · have HE : Hid (envL (thg sz) xs t.v = 0) := by
      show envL (thg sz) xs t.v = _
      unfold envL
      rw [if_neg hv]
    by_cases h0 : 0 ≤ t.v
    · have h1 : ¬ t.v < xs.length := fun h => hv ⟨h0, h⟩
      clear hv
      go_enter Try.func116, Try.ntmps116
      go_wp2
      go_ret
      exact ⟨ret_i64 (by rw [HV.out, HE.out]), hb2⟩
    · clear hv
      go_enter Try.func116, Try.ntmps116
      go_wp2
      go_ret
      exact ⟨ret_i64 (by rw [HV.out, HE.out]), hb2⟩

theorem WI.keep {w : World} {v : Value} {k : Nat} {xs : List Int} {W W' : World} (h : WI w v k xs W) (hb : Below W.heap.size W W') : WI w v k xs W' := ⟨row_below h.row hb, h.bel.trans (hb.mono h.bel.size)⟩

set_option maxRecDepth 100000 in
set_option maxHeartbeats 1000000 in
theorem value_fn (sz : Int) (rule : List Int) (vr : Value) (xs : List Int) (vx : Value) (t : T) (ih : ∀ a ∈ t.args, ValueAt sz rule vr xs vx a) (h0 : t.fn.size ≠ 0) : ValueAt sz rule vr xs vx t := by
  intro sl w hw hx ha hsh
  have HV : Hid (t.val (pk sz rule) (envL (thg sz) xs) = pk sz rule t.fn (t.args.map (T.val (pk sz rule) (envL (thg sz) xs)))) := by
    show _ = _
    rw [T.val_eq, if_neg h0]
  have hdd : t.fn.toList.isEmpty = false := by rw [ba_isEmpty]; exact decide_eq_false h0
  rw [T.shape_eq, if_neg h0] at hsh
  simp only [Bool.and_eq_true, decide_eq_true_eq, List.all_eq_true] at hsh
  obtain ⟨⟨⟨hx16, h64⟩, h16⟩, hshs⟩ := hsh
  clear hx16
  obtain ⟨g, hg⟩ : ∃ g, T.val (pk sz rule) (envL (thg sz) xs) = g := ⟨_, rfl⟩
  have HG : Hid (T.val (pk sz rule) (envL (thg sz) xs) = g) := hg
  rw [hg] at HV ⊢
  obtain ⟨ra, rc, rfl⟩ := hw.at_.slice
  obtain ⟨xa, xc, rfl⟩ := hx.slice
  obtain ⟨sa, sc, rfl, _, _⟩ := ha.slice
  have hb2 := below_two w (wbox sz (.slice ra rule.length rc)) (tbox t (.slice sa t.args.length sc))
  have hbx := below_box (w.alloc (wbox sz (.slice ra rule.length rc))) (tbox t (.slice sa t.args.length sc))
  obtain ⟨c0, c1⟩ := wbox_cells w sz (.slice ra rule.length rc)
  have d0 := kc hbx (by simp) c0
  have d1 := kc hbx (by simp) c1
  obtain ⟨t0, t1, t2⟩ := tbox_cells (w.alloc (wbox sz (.slice ra rule.length rc))) t (.slice sa t.args.length sc)
  rw [World.size_alloc] at t0 t1 t2
  obtain ⟨W2, hW2⟩ : ∃ W2, (w.alloc (wbox sz (.slice ra rule.length rc))).alloc (tbox t (.slice sa t.args.length sc)) = W2 := ⟨_, rfl⟩
  have hsz2 : W2.heap.size = w.heap.size + 1 + 1 := by rw [← hW2]; simp
  rw [hW2] at d0 d1 t0 t1 t2 hb2
  have HW : Hid (Wd sz rule (.slice ra rule.length rc) W2) := hw.keep hb2
  have HX : Hid (IntsAt W2 (.slice xa xs.length xc) xs) := hx.keep hb2
  have HA : Hid (ArgsAt W2 (.slice sa t.args.length sc) t.args) := ArgsAt.keep hb2 (Nat.le_refl _) ha
  have HB2 : Hid (Below w.heap.size w W2) := hb2
  have HD : Hid (∀ X, Below W2.heap.size W2 X → X.cell? ⟨w.heap.size, 0, none⟩ = some (.int .i64 sz) ∧ X.cell? ⟨w.heap.size, 1, none⟩ = some (.slice ra rule.length rc) ∧ X.cell? ⟨w.heap.size + 1, 1, none⟩ = some (.string t.fn) ∧ X.cell? ⟨w.heap.size + 1, 2, none⟩ = some (.slice sa t.args.length sc)) :=
    fun X hX => ⟨kc hX (by omega) d0, kc hX (by omega) d1, kc hX (by omega) t1, kc hX (by omega) t2⟩
  have HIH : Hid (∀ a ∈ t.args, ValueAt sz rule (.slice ra rule.length rc) xs (.slice xa xs.length xc) a) := ih
  have HSH : Hid (∀ a ∈ t.args, a.shape = true) := hshs
  obtain ⟨j0, hj0, hz0, hz1, hz2⟩ := info_parts Try.info3
  clear c0 c1 hbx h0 hx ha hw ih hshs hg hb2
  go_enter Try.func116, Try.ntmps116
  go_wp2
  first | rw [hW2] | skip
  go_loopw [7, 8] (fun v i wr => ∃ k : Nat, k ≤ t.args.length ∧ i = .int .i64 k ∧ WI W2 v k ((t.args.take k).map g) wr) (fun _ i _ => t.args.length - (intOf i).toNat)
  case atStart => exact ⟨0, Nat.zero_le _, rfl, World.ownsRow_nil _ _ _ _, by first | exact Below.refl _ _ | (rw [← hW2]; exact Below.refl _ _)⟩
  case round =>
    obtain ⟨k, hk, rfl, hI⟩ := hrel
    obtain ⟨va, vc, rfl⟩ := row_form hI.row
    have HI : Hid (WI W2 (.slice va k vc) k ((t.args.take k).map g) wr) := hI
    obtain ⟨e0, e1, e2, e3⟩ := HD.out wr hI.bel
    clear hI d0 d1 t0 t1 t2 hW2
    by_cases hlt : k < t.args.length
    · have hki : ((k : Int) < (t.args.length : Int)) := by omega
      have HS : Hid ((t.args.take (k + 1)).map g = (t.args.take k).map g ++ [g t.args[k]]) := by
        show _ = _
        rw [List.take_succ_eq_append_getElem hlt, List.map_append]
        rfl
      obtain ⟨b, o, s, q0, hbl, a0, a1, a2, hs⟩ := (ArgsAt.keep HI.out.bel (Nat.le_refl _) HA.out).nth hlt
      cases q0
      obtain ⟨ys, hys⟩ : ∃ ys, (t.args.take k).map g = ys := ⟨_, rfl⟩
      rw [hys] at HI HS
      clear hys
      have hcall := HIH.out t.args[k] (List.getElem_mem hlt) s wr.drew (HW.out.keep (HI.out.bel.drew)) (HX.out.keep (HI.out.bel.drew)) (ArgsAt.keep (Below.refl _ _).drew (Nat.le_refl _) hs) (HSH.out _ (List.getElem_mem hlt))
      rw [HG.out] at hcall
      obtain ⟨ta, tc, rfl, _, _⟩ := hs.slice
      obtain ⟨q, hq⟩ : ∃ q, t.args[k] = q := ⟨_, rfl⟩
      simp only [hq] at hcall a0 a1 a2 HS
      obtain ⟨y, hy⟩ : ∃ y, g q = y := ⟨_, rfl⟩
      rw [hy] at hcall HS
      have hcall2 := hcall.mono (R' := fun e' W5 => e' = .returned (.int .i64 y) ∧ Hid (WI W2 (.slice va k vc) k ys W5)) (by
        rintro e' W5 ⟨he5, hb5⟩
        exact ⟨he5, HI.out.keep ((Below.refl _ _).drew.trans hb5)⟩)
      clear hcall hs hq hy HIH
      go_wp2
      go_region_law (first
        | (refine step_append_own _ rfl (.tmp 36) (.tmp 45) 33 rfl W2.heap.size 3 j0 _ 1 8 Try.underlying33 hj0 hz0 hz1 hz2 rfl (by decide) (.slice va k vc) k (ys.map (Value.int .i64)) rfl (HW5.out.al _) ⟨W5.heap.size, 0, none⟩ 1 1 [.int .i64 y] rfl rfl (cell_one_new _ _ _) (by simp [Value.oneCell']) (by unfold maxLen; omega) (by omega) (HW5.out.up _) ?_; intro v' w6 hrow6 hg6 hb6; obtain ⟨a6, c6, rfl⟩ := row_form hrow6)
        | (go_simp; go_at_call 116; refine hcall2.mono ?_; rintro _ W5 ⟨rfl, HW5⟩; go_simp))
      all_goals (
        have HE : Hid (WI W2 (.slice a6 (k + 1) c6) (k + 1) (ys ++ [y]) w6) := HW5.out.push y _ w6 hrow6 hg6
        go_wp2
        go_roundw
        case rel => exact ⟨k + 1, by omega, by go_num, by rw [HS.out]; exact HE.out⟩
        case measure => simp [intOf]; omega)
    · have hke : k = t.args.length := by omega
      subst hke
      rw [List.take_length] at HI
      have hcall := pick_any sz HW.out.lo HW.out.hi rule HW.out.pos t.fn (t.args.map g) (.slice ra rule.length rc) (.slice va t.args.length vc) wr (by omega) (HW.out.keep HI.out.bel).at_ (ints_of_row HI.out.row)
      rw [← HV.out] at hcall
      go_wp2_with (go_at_call 126; refine hcall.mono ?_; rintro e w' ⟨rfl, hb'⟩)
      go_ret
      exact ⟨rfl, HB2.out.trans ((HI.out.bel.mono HB2.out.size).trans (hb'.mono (Nat.le_trans HB2.out.size HI.out.bel.size)))⟩

theorem value_any (sz : Int) (rule : List Int) (vr : Value) (xs : List Int) (vx : Value) (t : T) : ValueAt sz rule vr xs vx t := by
  induction t using T.ind with
  | _ t ih =>
    by_cases h0 : t.fn.size = 0
    · exact value_var sz rule vr xs vx t h0
    · exact value_fn sz rule vr xs vx t ih h0

end Go.Proofs.Ytgnjgpplelakkaa

/-
  The document's interpretations: Holds.
-/
namespace Go.Proofs.Ytgnjgpplelakkaa
open Go.RowKit

theorem any_take_succ {p : Lt → Bool} (l : List Lt) (i : Nat) (h : i < l.length) (h0 : (l.take i).any p = false) (h1 : p l[i] = false) : (l.take (i + 1)).any p = false := by
  rw [List.take_succ_eq_append_getElem h, List.any_append, h0]
  simp [h1]

set_option maxRecDepth 100000 in
set_option maxHeartbeats 1000000 in
theorem holds_any (sz : Int) (rule : List Int) (vr : Value) (xs : List Int) (vx : Value) (l : List Lt) (v : Value) (w : World) (hw : Wd sz rule vr w) (hx : IntsAt w vx xs) (hc : ClauseAt w v l) (hsh : Shaped l) :
    Calls Try.prog 94 #[wval sz vr, v, vx] w fun e w' => e = .returned (.bool (holds (pk sz rule) (envL (thg sz) xs) l)) ∧ Below w.heap.size w w' := by
  have HH : Hid (holds (pk sz rule) (envL (thg sz) xs) l = l.any (holdsL (pk sz rule) (envL (thg sz) xs))) := rfl
  obtain ⟨g, hg⟩ : ∃ g, T.val (pk sz rule) (envL (thg sz) xs) = g := ⟨_, rfl⟩
  have HG : Hid (∀ x, holdsL (pk sz rule) (envL (thg sz) xs) x = (decide (g x.l = g x.r) != x.neg)) := fun x => by
    unfold holdsL
    rw [hg]
  obtain ⟨p, hp⟩ : ∃ p, holdsL (pk sz rule) (envL (thg sz) xs) = p := ⟨_, rfl⟩
  rw [hp] at HH HG
  have hval : ∀ (t : T) (s : Value) (W : World), Wd sz rule vr W → IntsAt W vx xs → ArgsAt W s t.args → t.shape = true → Calls Try.prog 116 #[wval sz vr, tval t s, vx] W fun e w' => e = .returned (.int .i64 (g t)) ∧ Below W.heap.size W w' := by
    intro t s W h1 h2 h3 h4
    have := value_any sz rule vr xs vx t s W h1 h2 h3 h4
    rwa [hg] at this
  obtain ⟨ra, rc, rfl⟩ := hw.at_.slice
  obtain ⟨xa, xc, rfl⟩ := hx.slice
  obtain ⟨a, c, rfl⟩ := hc.slice
  have hb1 := below_box w (wbox sz (.slice ra rule.length rc))
  obtain ⟨c0, c1⟩ := wbox_cells w sz (.slice ra rule.length rc)
  obtain ⟨W1, hW1⟩ : ∃ W1, w.alloc (wbox sz (.slice ra rule.length rc)) = W1 := ⟨_, rfl⟩
  have hsz1 : W1.heap.size = w.heap.size + 1 := by rw [← hW1]; simp
  rw [hW1] at c0 c1 hb1
  have hlen := hc.len
  have HW : Hid (Wd sz rule (.slice ra rule.length rc) W1) := hw.keep hb1
  have HX : Hid (IntsAt W1 (.slice xa xs.length xc) xs) := hx.keep hb1
  have HC : Hid (ClauseAt W1 (.slice a l.length c) l) := hc.keep hb1
  have HB1 : Hid (Below w.heap.size w W1) := hb1
  have HD : Hid (∀ X, Below W1.heap.size W1 X → w.heap.size < X.heap.size ∧ X.cell? ⟨w.heap.size, 0, none⟩ = some (.int .i64 sz) ∧ X.cell? ⟨w.heap.size, 1, none⟩ = some (.slice ra rule.length rc)) := fun X hX => ⟨by have := hX.size; omega, kc hX (by omega) c0, kc hX (by omega) c1⟩
  have HV : Hid (∀ (t : T) (s : Value) (W : World), Wd sz rule (.slice ra rule.length rc) W → IntsAt W (.slice xa xs.length xc) xs → ArgsAt W s t.args → t.shape = true → Calls Try.prog 116 #[wval sz (.slice ra rule.length rc), tval t s, .slice xa xs.length xc] W fun e w' => e = .returned (.int .i64 (g t)) ∧ Below W.heap.size W w') := hval
  have HSH : Hid (Shaped l) := hsh
  clear hw hx hc hval hsh hg hp hb1 c0 c1
  generalize holds (pk sz rule) (envL (thg sz) xs) l = R at *
  go_enter Try.func94, Try.ntmps94
  go_wp2
  first | rw [hW1] | skip
  go_loopw [7] (fun vi wr => ∃ i : Nat, vi = .int .i64 i ∧ i ≤ l.length ∧ Hid ((l.take i).any p = false) ∧ Below W1.heap.size W1 wr) (fun vi _ => l.length - (intOf vi).toNat)
  case atStart => exact ⟨0, rfl, Nat.zero_le _, by simp [Hid], by first | exact Below.refl _ _ | (rw [← hW1]; exact Below.refl _ _)⟩
  case round =>
    obtain ⟨i, rfl, hi, hno, hb⟩ := hrel
    by_cases hlt : i < l.length
    · obtain ⟨bb, o, sl, sr, rfl, hX⟩ := (HC.out.keep hb).nth hlt
      obtain ⟨hsl, hsr⟩ := HSH.out _ (List.getElem_mem hlt)
      have HT : Hid (∀ q, p l[i] = q → if q then R = true else (l.take (i + 1)).any p = false) := by
        intro q hq
        cases q
        · exact any_take_succ l i hlt hno.out hq
        · show R = true
          rw [HH.out, List.any_eq_true]
          exact ⟨_, List.getElem_mem hlt, hq⟩
      have HP : Hid (p l[i] = (decide (g l[i].l = g l[i].r) != l[i].neg)) := HG.out _
      obtain ⟨x, hx⟩ : ∃ x, l[i] = x := ⟨_, rfl⟩
      rw [hx] at hX HT HP hsl hsr
      clear hx
      have hc116 : ∀ (t : T) (s : Value), ArgsAt wr s t.args → t.shape = true → ∀ W, Below wr.heap.size wr W → Calls Try.prog 116 #[wval sz (.slice ra rule.length rc), tval t s, .slice xa xs.length xc] W fun e w' => e = .returned (.int .i64 (g t)) ∧ Below W.heap.size W w' :=
        fun t s h hs W hW => HV.out t s W (HW.out.keep (hb.trans (hW.mono hb.size))) (HX.out.keep (hb.trans (hW.mono hb.size))) (ArgsAt.keep hW (Nat.le_refl _) h) hs
      have hal := hX.al
      have har := hX.ar
      obtain ⟨e9, e0, e1⟩ := HD.out wr hb
      have f0 := fun p => cell_far hX.lt hX.c0 p
      have f1 := fun p => cell_far hX.lt hX.c1 p
      have f2 := fun p => cell_far hX.lt hX.c2 p
      have f3 := fun p => cell_far hX.lt hX.c3 p
      have f4 := fun p => cell_far hX.lt hX.c4 p
      have f5 := fun p => cell_far hX.lt hX.c5 p
      have f6 := fun p => cell_far hX.lt hX.c6 p
      have f7 := fun p => cell_far e9 e0 p
      have f8 := fun p => cell_far e9 e1 p
      have i0 : (i : Int) < (l.length : Int) := by omega
      have i1 : (0 : Int) ≤ (i : Int) := by omega
      have HB : Hid (Below W1.heap.size W1 wr) := hb
      obtain ⟨_, _, rfl, _⟩ := hX.al.slice
      obtain ⟨_, _, rfl, _⟩ := hX.ar.slice
      clear hX hb e9 e0 e1
      obtain ⟨q, hq⟩ : ∃ q, (decide (g x.l = g x.r) != x.neg) = q := ⟨_, rfl⟩
      have HQ := HT.out q (by rw [HP.out, hq])
      have hqb : (!((g x.l == g x.r) == x.neg)) = q := hq
      clear HT HP hq
      have HQ' : Hid (if q then R = true else (l.take (i + 1)).any p = false) := HQ
      clear HQ
      go_wp2
      refine wp_region_far (by kernel_rfl) ?_
      repeat (first | go_big_quiet_step (exact calls_far (hc116 _ _ (by first | exact hal | exact har) (by first | exact hsl | exact hsr)) _) | quiet_step (exact calls_far (hc116 _ _ (by first | exact hal | exact har) (by first | exact hsl | exact hsr)) _))
      refine wpQuiet_nil ?_
      intro _ hw'
      obtain ⟨pf, rfl⟩ := hw'
      cases q
      · go_wp2
        go_roundw
        case rel => exact ⟨i + 1, by go_num, by omega, HQ', HB.out.trans ((below_far _ pf).mono HB.out.size)⟩
        case measure => simp [intOf]; omega
      · go_wp2
        go_ret
        exact ⟨ret_bool (Eq.symm HQ'), HB1.out.trans ((HB.out.trans ((below_far _ pf).mono HB.out.size)).mono HB1.out.size)⟩
    · have HE : Hid (R = false) := by
        show R = false
        rw [HH.out, ← hno.out, List.take_of_length_le (by omega)]
      go_wp2
      go_ret
      exact ⟨ret_bool (by rw [HE.out]), HB1.out.trans (hb.mono HB1.out.size)⟩

end Go.Proofs.Ytgnjgpplelakkaa
