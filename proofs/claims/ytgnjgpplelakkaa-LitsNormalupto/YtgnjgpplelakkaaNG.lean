import Derived.Test.YtgnjgpplelakkaaMH
import Derived.Test.YtgnjgpplelakkaaUC
import Derived.Test.YtgnjgpplelakkaaLV
import Derived.Test.YtgnjgpplelakkaaUH
import Derived.Maps.AppendAt
import Derived.Test.YtgnjgpplelakkaaMD

/-
  The document's Met: the numbers of a term's variables, as they are first met.
-/
namespace Go.Proofs.Ytgnjgpplelakkaa
open Go.RowKit Go.Maps

/-- The block of a row. -/
def ownL (v : Value) : List Nat := v.ownBlock.toList
theorem ownL_mem {v : Value} {g : Nat} : g ∈ ownL v ↔ v.ownBlock = some g := by
  unfold ownL
  cases v.ownBlock <;> simp [eq_comm]

/-- A row of numbers, behind W0. -/
structure MetR (W0 : World) (v : Value) (met : List Int) (W : World) : Prop where
  row : W.ownsRow W0.heap.size 3 1 v met.length (met.map (Value.int .i64))
  bel : Below W0.heap.size W0 W

theorem MetR.keep {W0 : World} {v : Value} {met : List Int} {W W' : World} (h : MetR W0 v met W) (hb : Below W.heap.size W W') : MetR W0 v met W' :=
  ⟨row_keep h.row (fun g hg => hb.block g (h.row.lt g hg).2), h.bel.trans (hb.mono h.bel.size)⟩

theorem MetR.nth {W0 : World} {v : Value} {met : List Int} {W : World} (h : MetR W0 v met W) {i : Nat} (hi : i < met.length) : ∃ g c, v = .slice (some ⟨g, 0, none⟩) met.length c ∧ g < W.heap.size ∧ W.cell? ⟨g, i, none⟩ = some (.int .i64 met[i]) := by
  rcases h.row.2 with ⟨_, hn⟩ | ⟨g, cap, cur, e, hb, hg, hcap, hmax, hsz, htk⟩
  · omega
  · refine ⟨g, cap, e, (Array.getElem?_eq_some_iff.1 hg).1, ?_⟩
    rw [cell_of_row _ _ _ _ 3 (0, 0) hg]
    have h1 : (met.map (Value.int .i64))[i]? = some (.int .i64 met[i]) := by simp [hi]
    rw [← htk, List.getElem?_take_of_lt (by omega)] at h1
    simpa using h1

/-- What Met does at a term. -/
def MetAt (W0 : World) (t : T) : Prop :=
  ∀ (v : Value) (met : List Int) (sl : Value) (w : World), MetR W0 v met w → ArgsAt W0 sl t.args → t.shape = true → (met.length : Int) + t.size ≤ 4000 →
    Calls Try.prog 88 #[v, tval t sl] w fun e w' => ∃ v', e = .returned v' ∧ MetR W0 v' (ren t met).2 w' ∧ Only (ownL v) w w' ∧ ∀ g, v'.ownBlock = some g → v.ownBlock = some g ∨ w.heap.size ≤ g

/-- What stands in Met's loop over the arguments. -/
structure MtI (W0 w : World) (v : Value) (box : Obj) (vv : Value) (met : List Int) (W : World) : Prop where
  m : MetR W0 vv met W
  onl : Only (ownL v) w W
  own : ∀ g, vv.ownBlock = some g → v.ownBlock = some g ∨ w.heap.size + 1 ≤ g
  box : W.heap[w.heap.size]? = some box
  siz : w.heap.size + 1 ≤ W.heap.size

theorem mt_step {W0 w : World} {v : Value} {box : Obj} {vv vv' : Value} {met met' : List Int} {W W' : World} (hv : ∀ g, v.ownBlock = some g → g < w.heap.size) (h : MtI W0 w v box vv met W) (hm : MetR W0 vv' met' W') (hO : Only (ownL vv) W W') (hown : ∀ g, vv'.ownBlock = some g → vv.ownBlock = some g ∨ W.heap.size ≤ g) : MtI W0 w v box vv' met' W' := by
  have hs := h.siz
  have hos := hO.size
  refine ⟨hm, h.onl.trans (B' := ownL vv) hO (fun r hr => ?_), fun g hg => ?_, ?_, by omega⟩
  · rcases h.own r (ownL_mem.1 hr) with e | e
    · exact .inl (ownL_mem.2 e)
    · exact .inr (by omega)
  · rcases hown g hg with e | e
    · exact h.own g e
    · exact .inr (by omega)
  · rw [hO.block _ (by omega) (fun hm => by
      rcases h.own _ (ownL_mem.1 hm) with e | e
      · have := hv _ e; omega
      · omega)]
    exact h.box

set_option maxRecDepth 100000 in
set_option maxHeartbeats 4000000 in
theorem met_fn (W0 : World) (t : T) (ih : ∀ a ∈ t.args, MetAt W0 a) (h0 : t.fn.size ≠ 0) : MetAt W0 t := by
  intro v met sl w hm ha hsh hsz
  obtain ⟨a, c, rfl, _, _⟩ := ha.slice
  rw [ren_fn_eq h0]
  obtain ⟨hv0, hall⟩ := shape_fn hsh h0
  have hdd : t.fn.toList.isEmpty = false := by rw [ba_isEmpty]; exact decide_eq_false h0
  have hmk : ∀ k (hk : k < t.args.length), (((ren.rens (t.args.take k) met).2.length : Int)) + t.args[k].size ≤ 4000 := fun k hk => by
    have h2 := t.size_eq
    have h3 := rens_met (t.args.take k) met
    have h4 := upto_succ T.size t.args k hk
    have h5 : upto T.size t.args (k + 1) ≤ (t.args.map T.size).sum := by
      unfold upto
      rw [← List.take_append_drop (k + 1) t.args, List.map_append, List.sum_append]
      have := (sum_sizes (t.args.drop (k + 1))).1
      simp only [List.take_append_drop]
      omega
    unfold upto at h4 h5
    omega
  have HMK : Hid (∀ k (hk : k < t.args.length), (((ren.rens (t.args.take k) met).2.length : Int)) + t.args[k].size ≤ 4000) := hmk
  have HIH : Hid (∀ a ∈ t.args, MetAt W0 a) := ih
  have HALL : Hid (∀ a ∈ t.args, a.shape = true) := hall
  have HA : Hid (ArgsAt W0 (.slice a t.args.length c) t.args) := ha
  have HVL : Hid (∀ g, v.ownBlock = some g → g < w.heap.size) := fun g e => (hm.row.lt g e).2
  obtain ⟨va, vc, rfl⟩ := row_form hm.row
  have HI0 : Hid (MtI W0 w (.slice va met.length vc) (tbox t (.slice a t.args.length c)) (.slice va met.length vc) met (w.alloc (tbox t (.slice a t.args.length c)))) := ⟨hm.keep (below_box w _), Only.of_below (below_box w _), fun g e => .inl e, (MapKept.heap_alloc w _).1, by simp⟩
  obtain ⟨b0, b1, b2⟩ := tbox_cells w t (.slice a t.args.length c)
  have hlen : t.args.length ≤ 4000 := by
    have := (sum_sizes t.args).1
    have := t.size_eq
    omega
  clear h0 hsh hsz hmk ih hall ha hm hv0
  go_enter Try.func88, Try.ntmps88
  go_wp2
  go_loopw [0, 7] (fun vo vi wr => ∃ k : Nat, vi = .int .i64 k ∧ k ≤ t.args.length ∧ MtI W0 w (.slice va met.length vc) (tbox t (.slice a t.args.length c)) vo (ren.rens (t.args.take k) met).2 wr) (fun _ vi _ => t.args.length - (intOf vi).toNat)
  case atStart => exact ⟨0, rfl, Nat.zero_le _, HI0.out⟩
  case round =>
    obtain ⟨k, rfl, hk, hI⟩ := hrel
    obtain ⟨xa, xc, rfl⟩ := row_form hI.m.row
    obtain ⟨⟨q0, q1, q2⟩, _, _, _⟩ := box_facts hI.box
    by_cases hlt : k < t.args.length
    · obtain ⟨bb, o, s, e1, hbl, c0, c1, c2, hs⟩ := HA.out.nth hlt
      cases e1
      have c0' := kc hI.m.bel hbl c0
      have c1' := kc hI.m.bel hbl c1
      have c2' := kc hI.m.bel hbl c2
      have hcall := HIH.out t.args[k] (List.getElem_mem hlt) _ _ s wr hI.m hs (HALL.out _ (List.getElem_mem hlt)) (HMK.out k hlt)
      have HN : Hid ((ren.rens (t.args.take (k + 1)) met).2 = (ren t.args[k] (ren.rens (t.args.take k) met).2).2) := by show _ = _; rw [List.take_succ_eq_append_getElem hlt, rens_snoc]
      have HI : Hid (MtI W0 w (.slice va met.length vc) (tbox t (.slice (some ⟨bb, o, none⟩) t.args.length c)) (.slice xa (ren.rens (t.args.take k) met).2.length xc) (ren.rens (t.args.take k) met).2 wr) := hI
      obtain ⟨sa, sc, rfl, _, _⟩ := hs.slice
      have k0' : (k : Int) < (t.args.length : Int) := by omega
      have k1' : (0 : Int) ≤ (k : Int) := by omega
      clear hI hs
      go_wp2_with fail
      refine hcall.mono ?_
      rintro e W1 ⟨v', rfl, hm1, hO1, hown1⟩
      have HE := mt_step HVL.out HI.out hm1 hO1 hown1
      obtain ⟨ya, yc, rfl⟩ := row_form hm1.row
      have HEE : Hid (MtI W0 w (.slice va met.length vc) (tbox t (.slice (some ⟨bb, o, none⟩) t.args.length c)) (.slice ya (ren t.args[k] (ren.rens (t.args.take k) met).2).2.length yc) (ren t.args[k] (ren.rens (t.args.take k) met).2).2 W1) := HE
      clear HE hm1 hO1 hown1
      go_wp2
      go_roundw
      case rel => exact ⟨k + 1, by go_num, by omega, by rw [HN.out]; exact HEE.out⟩
      case measure => simp [intOf]; omega
    · have hke : k = t.args.length := by omega
      subst hke
      have hI2 := hI
      rw [List.take_length] at hI2
      have HF : Hid (MetR W0 (.slice xa (ren.rens (t.args.take t.args.length) met).2.length xc) (ren.rens t.args met).2 wr ∧ Only (ownL (.slice va met.length vc)) w wr ∧ ∀ g, (Value.slice xa (ren.rens (t.args.take t.args.length) met).2.length xc).ownBlock = some g → (Value.slice va met.length vc).ownBlock = some g ∨ w.heap.size ≤ g) := by
        refine ⟨?_, hI.onl, fun g hg => ?_⟩
        · have := hI.m
          rw [List.take_length] at this ⊢
          exact this
        · rcases hI.own g hg with e | e
          · exact .inl e
          · exact .inr (by omega)
      clear hI hI2
      go_wp2
      go_ret
      exact ⟨_, rfl, HF.out⟩

end Go.Proofs.Ytgnjgpplelakkaa

/-
  The document's Met, at a variable; at every term.
-/
namespace Go.Proofs.Ytgnjgpplelakkaa
open Go.RowKit Go.Maps

theorem any_take_succ (met : List Int) (n : Int) (i : Nat) (h : i < met.length) : (met.take (i + 1)).any (· == n) = ((met.take i).any (· == n) || (met[i] == n)) := by
  rw [List.take_succ_eq_append_getElem h, List.any_append]
  simp

theorem nm_any {met : List Int} {n : Int} (h0 : 0 ≤ n) (h1 : n < 1000000) : (met.any (· == n) = true → (nm met n).1 = met) ∧ (met.any (· == n) = false → (nm met n).1 = met ++ [n]) := by
  unfold nm
  rw [if_neg (by omega)]
  constructor
  · intro h
    obtain ⟨a, ha, e⟩ := List.any_eq_true.1 h
    have e' : a = n := by simpa using e
    subst e'
    cases hi : idx met a with
    | none => exact absurd ha (idx_none hi)
    | some j => rfl
  · intro h
    cases hi : idx met n with
    | none => rfl
    | some j =>
      have : met.any (· == n) = true := List.any_eq_true.2 ⟨n, List.mem_of_getElem? (idx_some hi), beq_self_eq_true n⟩
      rw [this] at h
      cases h

theorem met_push {W0 w wr w4 : World} {v v' : Value} {met : List Int} {n : Int} (hm : MetR W0 v met wr) (hv : ∀ g, v.ownBlock = some g → g < w.heap.size) (hwr : Below w.heap.size w wr) (hsz : w.heap.size < wr.heap.size) (h2 : w4.ownsRow W0.heap.size 3 1 v' (met.length + 1) (met.map (Value.int .i64) ++ [.int .i64 n])) (h3 : (wr.alloc (.cells #[.int .i64 n] 3)).grownBy w4 v.ownBlock) (h5 : v'.ownBlock = v.ownBlock ∨ v'.ownBlock = some (wr.alloc (.cells #[.int .i64 n] 3)).heap.size) :
    MetR W0 v' (met ++ [n]) w4 ∧ Only (ownL v) w w4 ∧ (∀ g, v'.ownBlock = some g → v.ownBlock = some g ∨ w.heap.size ≤ g) ∧ w4.heap[w.heap.size]? = wr.heap[w.heap.size]? := by
  have hba := below_box wr (.cells #[.int .i64 n] 3)
  have hwa := hwr.trans (hba.mono hwr.size)
  have hma := hm.keep hba
  refine ⟨⟨by rw [List.length_append, List.map_append]; exact h2, hma.bel.trans ⟨h3.os, h3.tape, h3.output, h3.size, fun k hk => h3.block k (by have := hma.bel.size; omega) (fun e => ?_)⟩⟩, (Only.of_below (B := ownL v) hwa).trans (B' := ownL v) (Only.of_grown h3 (fun r e => ownL_mem.2 e)) (fun r hr => .inl hr), fun g hg => ?_, ?_⟩
  · have := (hm.row.lt k e.symm).1
    omega
  · rcases h5 with e | e
    · rw [e] at hg; exact .inl hg
    · rw [e] at hg
      have := Option.some.inj hg
      simp at this
      exact .inr (by omega)
  · rw [h3.block _ (by simp; omega) (fun e => by have := hv _ e.symm; omega), hba.block _ hsz]

set_option maxRecDepth 100000 in
set_option maxHeartbeats 4000000 in
theorem met_var (W0 : World) (t : T) (h0 : t.fn.size = 0) : MetAt W0 t := by
  intro v met sl w hm ha hsh hsz
  have hv := shape_var hsh h0
  have hr := vs_range t hsh t.v (vs_var h0)
  have ht1 : 1 ≤ t.size := size_pos t
  obtain ⟨n, hn⟩ : ∃ n, t.v = n := ⟨_, rfl⟩
  rw [hn] at hv hr
  subst hv
  rw [ren_var_eq]
  simp only
  obtain ⟨hr0, hr1⟩ := hr
  obtain ⟨a, c, rfl, _, _⟩ := ha.slice
  have hml : met.length < 4000 := by omega
  have HNM : Hid ((met.any (· == n) = true → (nm met n).1 = met) ∧ (met.any (· == n) = false → (nm met n).1 = met ++ [n])) := nm_any hr0 hr1
  obtain ⟨va, vc, rfl⟩ := row_form hm.row
  have HM : Hid (MetR W0 (.slice va met.length vc) met w) := hm
  have hb0 := below_box w (tbox (var n) (.slice a 0 c))
  obtain ⟨b0, b1, b2⟩ := tbox_cells w (var n) (.slice a 0 c)
  have HB0 : Hid (Below w.heap.size w (w.alloc (tbox (var n) (.slice a 0 c)))) := hb0
  have b0' : (w.alloc (.cells #[.int .i64 n, .string ⟨#[]⟩, .slice a 0 c] 26)).cell? ⟨w.heap.size, 0, none⟩ = some (.int .i64 n) := b0
  have b1' : (w.alloc (.cells #[.int .i64 n, .string ⟨#[]⟩, .slice a 0 c] 26)).cell? ⟨w.heap.size, 1, none⟩ = some (.string ⟨#[]⟩) := b1
  have b2' : (w.alloc (.cells #[.int .i64 n, .string ⟨#[]⟩, .slice a 0 c] 26)).cell? ⟨w.heap.size, 2, none⟩ = some (.slice a 0 c) := b2
  have HC : Hid ((w.alloc (.cells #[.int .i64 n, .string ⟨#[]⟩, .slice a 0 c] 26)).cell? ⟨w.heap.size, 0, none⟩ = some (.int .i64 n) ∧ (w.alloc (.cells #[.int .i64 n, .string ⟨#[]⟩, .slice a 0 c] 26)).cell? ⟨w.heap.size, 2, none⟩ = some (.slice a 0 c)) := ⟨b0, b2⟩
  have hg0 : ¬ n < 0 := by omega
  have hg1 : ¬ n ≥ 1000000 := by omega
  obtain ⟨i0, hi0, hz0, hz1, hz2⟩ := info_parts Try.info3
  clear h0 hsh hsz ht1 hn ha hm hb0 b0 b1 b2
  show Calls Try.prog 88 #[.slice va met.length vc, .agg #[.int .i64 n, .string ⟨#[]⟩, .slice a 0 c]] w _
  obtain ⟨W1, hW1⟩ : ∃ W1, w.alloc (.cells #[.int .i64 n, .string ⟨#[]⟩, .slice a 0 c] 26) = W1 := ⟨_, rfl⟩
  have HW1 : Hid (w.alloc (.cells #[.int .i64 n, .string ⟨#[]⟩, .slice a 0 c] 26) = W1) := hW1
  clear hW1
  go_enter Try.func88, Try.ntmps88
  go_wp2
  all_goals first | (exfalso; omega) | skip
  go_loopw [5, 6] (fun vg vi wr => ∃ i : Nat, vi = .int .i64 i ∧ i ≤ met.length ∧ vg = .bool ((met.take i).any (· == n)) ∧ Below W1.heap.size W1 wr) (fun _ vi _ => met.length - (intOf vi).toNat)
  case atStart => exact ⟨0, rfl, Nat.zero_le _, by simp, by rw [HW1.out]; exact Below.refl _ _⟩
  case round =>
    obtain ⟨i, rfl, hi, rfl, hb⟩ := hrel
    have hwb : Below w.heap.size w W1 := by rw [← HW1.out]; exact HB0.out
    have hs1 : w.heap.size < W1.heap.size := by rw [← HW1.out]; simp
    have hmr := (HM.out.keep hwb).keep hb
    have k0 := kc hb hs1 (by rw [← HW1.out]; exact HC.out.1)
    have k2 := kc hb hs1 (by rw [← HW1.out]; exact HC.out.2)
    by_cases hlt : i < met.length
    · obtain ⟨g, gc, e, hgl, hgc⟩ := hmr.nth hlt
      cases e
      have HN : Hid ((met.take (i + 1)).any (· == n) = ((met.take i).any (· == n) || (met[i] == n))) := any_take_succ met n i hlt
      have f0 := fun p => cell_far (Nat.lt_of_lt_of_le hs1 hb.size) k0 p
      have g0 := fun p => cell_far hgl hgc p
      have HB : Hid (Below W1.heap.size W1 wr) := hb
      obtain ⟨y, hy⟩ : ∃ y, met[i] = y := ⟨_, rfl⟩
      simp only [hy] at g0 HN
      obtain ⟨q, hq⟩ : ∃ q, (met.take i).any (· == n) = q := ⟨_, rfl⟩
      rw [hq] at HN
      rw [hq]
      have i0' : (i : Int) < (met.length : Int) := by omega
      have i1' : (0 : Int) ≤ (i : Int) := by omega
      clear hq hy hmr hb k0 k2 hgc hwb
      cases q
      · go_wp2
        refine wp_region_far (by kernel_rfl) ?_
        repeat (first | go_big_quiet_step (fail) | quiet_step (fail))
        refine wpQuiet_nil ?_
        intro _ hw'
        obtain ⟨pf, rfl⟩ := hw'
        go_wp2
        go_roundw
        case rel => exact ⟨i + 1, by go_num, by omega, by rw [HN.out]; simp, HB.out.trans ((below_far _ pf).mono HB.out.size)⟩
        case measure => simp [intOf]; omega
      · go_wp2
        refine wp_region_far (by kernel_rfl) ?_
        repeat (first | go_big_quiet_step (fail) | quiet_step (fail))
        refine wpQuiet_nil ?_
        intro _ hw'
        obtain ⟨pf, rfl⟩ := hw'
        go_wp2
        go_roundw
        case rel => exact ⟨i + 1, by go_num, by omega, by rw [HN.out]; simp, HB.out.trans ((below_far _ pf).mono HB.out.size)⟩
        case measure => simp [intOf]; omega
    · rw [List.take_of_length_le (by omega)]
      have hwr : Below w.heap.size w wr := hwb.trans (hb.mono (by omega))
      have HMR : Hid (MetR W0 (.slice va met.length vc) met wr ∧ Below w.heap.size w wr ∧ w.heap.size < wr.heap.size) := ⟨hmr, hwr, Nat.lt_of_lt_of_le hs1 hb.size⟩
      have hlen : (met.length : Int) < 4000 := by omega
      cases hq : met.any (· == n)
      · have HE := HNM.out.2 hq
        have HEE : Hid ((nm met n).1 = met ++ [n]) := HE
        have HR : Hid ((wr.alloc (.cells #[.int .i64 n] 3)).ownsRow W0.heap.size 3 1 (.slice va met.length vc) met.length (met.map (Value.int .i64))) := (hmr.keep (below_box wr _)).row
        have HS : Hid (W0.heap.size ≤ (wr.alloc (.cells #[.int .i64 n] 3)).heap.size) := (hmr.keep (below_box wr _)).bel.size
        clear hq HE hmr hwr hb HNM hwb
        go_wp2_with (first | (at_builtin; refine wpList_append_own_at _ rfl _ _ 33 rfl W0.heap.size 3 i0 (.int .i64 0) 1 8 Try.underlying33 hi0 hz0 hz1 hz2 rfl (by decide) _ _ _ rfl HR.out ⟨wr.heap.size, 0, none⟩ 1 1 [.int .i64 n] rfl rfl (cell_one_new _ _ _) (by simp [Value.oneCell']) (by unfold maxLen; omega) (by omega) HS.out ?_; intro v4 w4 h2 h3 h4 h5; obtain ⟨pa4, pc4, rfl⟩ := row_form h2; have hp := met_push HMR.out.1 (fun g e => (HM.out.row.lt g e).2) HMR.out.2.1 HMR.out.2.2 h2 h3 h5; have hbx : w4.cell? ⟨w.heap.size, 2, none⟩ = some (.slice a 0 c) := (cell_block hp.2.2.2).trans k2; have HF : Hid (MetR W0 (.slice pa4 (met.length + 1) pc4) (met ++ [n]) w4 ∧ Only (ownL (.slice va met.length vc)) w w4 ∧ ∀ g, (Value.slice pa4 (met.length + 1) pc4).ownBlock = some g → (Value.slice va met.length vc).ownBlock = some g ∨ w.heap.size ≤ g) := ⟨hp.1, hp.2.1, hp.2.2.1⟩; clear hp h2 h3 h4 h5))
        go_loopw [0, 7] (fun vo vi wx => vi = .int .i64 0 ∧ vo = .slice pa4 (met.length + 1) pc4 ∧ wx = w4) (fun _ _ _ => 0)
        case atStart => exact ⟨rfl, rfl, rfl⟩
        case round =>
          obtain ⟨rfl, rfl, rfl⟩ := hrel
          go_wp2
          go_ret
          exact ⟨_, rfl, by rw [HEE.out]; exact HF.out.1, HF.out.2⟩
      · have HEE : Hid ((nm met n).1 = met) := HNM.out.1 hq
        clear hq hmr hwr hb HNM hwb
        go_wp2
        go_loopw [0, 7] (fun vo vi wx => vi = .int .i64 0 ∧ vo = .slice va met.length vc ∧ wx = wr) (fun _ _ _ => 0)
        case atStart => exact ⟨rfl, rfl, rfl⟩
        case round =>
          obtain ⟨rfl, rfl, rfl⟩ := hrel
          go_wp2
          go_ret
          exact ⟨_, rfl, by rw [HEE.out]; exact HMR.out.1, Only.of_below HMR.out.2.1, fun g hg => .inl hg⟩

theorem met_any (W0 : World) (t : T) : MetAt W0 t := by
  induction t using T.ind with
  | _ t ih =>
    by_cases h0 : t.fn.size = 0
    · exact met_var W0 t h0
    · exact met_fn W0 t ih h0

end Go.Proofs.Ytgnjgpplelakkaa

/-
  Binds in memory; the document's Of and Put.
-/
namespace Go.Proofs.Ytgnjgpplelakkaa
open Go.RowKit Go.Maps

/-- A bind: a variable's number, and what stands for it. -/
abbrev Bd := Int × T
abbrev bval (b : Bd) (sl : Value) : Value := .agg #[.int .i64 b.1, .int .i64 b.2.v, .string b.2.fn, sl]
abbrev bbox (b : Bd) (sl : Value) : Obj := .cells #[.int .i64 b.1, .int .i64 b.2.v, .string b.2.fn, sl] 96

/-- What is read of one bind. -/
structure BindAt (W : World) (b o : Nat) (x : Bd) (s : Value) : Prop where
  lt : b < W.heap.size
  c0 : W.cell? ⟨b, o, none⟩ = some (.int .i64 x.1)
  c1 : W.cell? ⟨b, o + 1, none⟩ = some (.int .i64 x.2.v)
  c2 : W.cell? ⟨b, o + 2, none⟩ = some (.string x.2.fn)
  c3 : W.cell? ⟨b, o + 3, none⟩ = some s
  sub : ArgsAt W s x.2.args

theorem BindAt.keep {W W' : World} {b o : Nat} {x : Bd} {s : Value} (h : BindAt W b o x s) (hb : Below W.heap.size W W') : BindAt W' b o x s :=
  ⟨Nat.lt_of_lt_of_le h.lt hb.size, kc hb h.lt h.c0, kc hb h.lt h.c1, kc hb h.lt h.c2, kc hb h.lt h.c3, ArgsAt.keep hb (Nat.le_refl _) h.sub⟩

/-- A slice of binds, as it lies in memory. -/
def BindsAt (W : World) (v : Value) (l : List Bd) : Prop :=
  ∃ a c, v = .slice a l.length c ∧ l.length ≤ c ∧ c ≤ 9223372036854775807 ∧ (0 < l.length → ∃ b o, a = some ⟨b, o, none⟩ ∧ ∀ i (h : i < l.length), ∃ s, BindAt W b (o + i * 4) l[i] s)

theorem BindsAt.keep {W W' : World} {v : Value} {l : List Bd} (h : BindsAt W v l) (hb : Below W.heap.size W W') : BindsAt W' v l := by
  obtain ⟨a, c, rfl, h1, h2, h3⟩ := h
  refine ⟨a, c, rfl, h1, h2, fun h0 => ?_⟩
  obtain ⟨b, o, rfl, h4⟩ := h3 h0
  exact ⟨b, o, rfl, fun i hi => by obtain ⟨s, hs⟩ := h4 i hi; exact ⟨s, hs.keep hb⟩⟩

theorem BindsAt.slice {W : World} {v : Value} {l : List Bd} (h : BindsAt W v l) : ∃ a c, v = .slice a l.length c := by
  obtain ⟨a, c, rfl, _⟩ := h
  exact ⟨a, c, rfl⟩

theorem BindsAt.nth {W : World} {a : Option Addr} {c n : Nat} {l : List Bd} (h : BindsAt W (.slice a n c) l) {i : Nat} (hi : i < l.length) : ∃ b o s, a = some ⟨b, o, none⟩ ∧ BindAt W b (o + i * 4) l[i] s := by
  obtain ⟨a', c', e, h1, h2, h3⟩ := h
  cases e
  obtain ⟨b, o, rfl, h4⟩ := h3 (by omega)
  obtain ⟨s, hs⟩ := h4 i hi
  exact ⟨b, o, s, rfl, hs⟩

theorem BindsAt.len {W : World} {v : Value} {l : List Bd} (h : BindsAt W v l) : l.length ≤ 9223372036854775807 := by
  obtain ⟨a, c, rfl, h1, h2, _⟩ := h
  omega

/-- What stands for a variable. -/
def img (l : List Bd) (n : Int) : T := ((l.find? (fun b => decide (b.1 = n))).map (·.2)).getD (var n)

theorem img_no {l : List Bd} {n : Int} (h : ∀ k (h : k < l.length), l[k].1 ≠ n) : img l n = var n := by
  unfold img
  rw [List.find?_eq_none.2]
  · rfl
  · intro b hb
    obtain ⟨j, hj, rfl⟩ := List.mem_iff_getElem.1 hb
    simpa using h j hj

theorem img_first {l : List Bd} {n : Int} {i : Nat} (hi : i < l.length) (h : ∀ j (hj : j < l.length), j < i → l[j].1 ≠ n) (e : l[i].1 = n) : img l n = l[i].2 := by
  have h3 : l = l.take i ++ l[i] :: l.drop (i + 1) := by rw [List.getElem_cons_drop, List.take_append_drop]
  have h4 : (l.take i).find? (fun b => decide (b.1 = n)) = none := List.find?_eq_none.2 (by
    intro b hb
    obtain ⟨j, hj, rfl⟩ := List.mem_iff_getElem.1 hb
    have hj' : j < i ∧ j < l.length := by simp at hj; omega
    rw [List.getElem_take]
    simpa using h j hj'.2 hj'.1)
  have h5 := congrArg (List.find? (fun b => decide (b.1 = n))) h3
  rw [List.find?_append, h4, Option.none_or, List.find?_cons_of_pos (by simpa using e)] at h5
  unfold img
  rw [h5]
  rfl

set_option maxRecDepth 100000 in
set_option maxHeartbeats 2000000 in
theorem of_any (W0 : World) (l : List Bd) (n : Int) (v : Value) (hl : BindsAt W0 v l) (w : World) (hw : Below W0.heap.size W0 w) :
    Calls Try.prog 113 #[v, .int .i64 n] w fun e w' => ∃ sl, e = .returned (tval (img l n) sl) ∧ ArgsAt W0 sl (img l n).args ∧ Below w.heap.size w w' := by
  have hlen := hl.len
  obtain ⟨a, c, rfl⟩ := hl.slice
  have HL : Hid (BindsAt W0 (.slice a l.length c) l) := hl
  have hz : (w.alloc (.cells #[.int .i64 0, .string ⟨#[]⟩, .slice none 0 0] 26)).heap[w.heap.size]? = some (.cells #[.int .i64 0, .string ⟨#[]⟩, .slice none 0 0] 26 (0, 0)) := (MapKept.heap_alloc w _).1
  clear hl
  go_enter Try.func113, Try.ntmps113
  go_wp2
  go_loopw [5] (fun vi wr => ∃ i : Nat, vi = .int .i64 i ∧ i ≤ l.length ∧ (∀ j (hj : j < l.length), j < i → l[j].1 ≠ n) ∧ wr = w.alloc (.cells #[.int .i64 0, .string ⟨#[]⟩, .slice none 0 0] 26)) (fun vi _ => l.length - (intOf vi).toNat)
  case atStart => exact ⟨0, rfl, Nat.zero_le _, fun j _ h => absurd h (by omega), rfl⟩
  case round =>
    obtain ⟨i, rfl, hi, hno, hwr⟩ := hrel
    have hb0 : Below w.heap.size w wr := by rw [hwr]; exact below_box w _
    have hzr : wr.heap[w.heap.size]? = some (.cells #[.int .i64 0, .string ⟨#[]⟩, .slice none 0 0] 26 (0, 0)) := by rw [hwr]; exact hz
    obtain ⟨⟨z0, z1, z2⟩, y0, y1, y2⟩ := box_facts hzr
    by_cases hlt : i < l.length
    · obtain ⟨b, o, s, e', hB0⟩ := HL.out.nth hlt
      cases e'
      have hB := hB0.keep (hw.trans (hb0.mono hw.size))
      have HI : Hid (l[i].1 = n → img l n = l[i].2) := img_first hlt hno
      have HN : Hid (l[i].1 ≠ n → ∀ j (hj : j < l.length), j < i + 1 → l[j].1 ≠ n) := fun hne j hj hji => by
        by_cases e : j = i
        · subst e; exact hne
        · exact hno j hj (by omega)
      obtain ⟨x, hx⟩ : ∃ x, l[i] = x := ⟨_, rfl⟩
      rw [hx] at hB hB0 HI HN
      obtain ⟨sa, sc, rfl, _, _⟩ := hB.sub.slice
      obtain ⟨g0, g1, g2, g3⟩ : wr.cell? ⟨b, o + i * 4, none⟩ = some (.int .i64 x.1) ∧ wr.cell? ⟨b, o + i * 4 + 1, none⟩ = some (.int .i64 x.2.v) ∧ wr.cell? ⟨b, o + i * 4 + 2, none⟩ = some (.string x.2.fn) ∧ wr.cell? ⟨b, o + i * 4 + 3, none⟩ = some (.slice sa x.2.args.length sc) := ⟨hB.c0, hB.c1, hB.c2, hB.c3⟩
      have HA : Hid (ArgsAt W0 (.slice sa x.2.args.length sc) x.2.args ∧ Below w.heap.size w wr ∧ wr = w.alloc (.cells #[.int .i64 0, .string ⟨#[]⟩, .slice none 0 0] 26)) := ⟨hB0.sub, hb0, hwr⟩
      clear hB hB0 hx hb0 hno hwr hzr hz
      by_cases he : x.1 = n
      · have hd : (x.1 == n) = true := decide_eq_true he
        have HE : Hid (img l n = x.2) := HI.out he
        clear he HI HN
        go_wp2
        refine bodyPost_ret (v := tval x.2 (.slice sa x.2.args.length sc)) (by simp [results, Try.results113, go_sem, *]) rfl ⟨_, by rw [HE], by rw [HE]; exact HA.out.1, ?_⟩
        exact set3_below HA.out.2.1 _ 0 _ _ _ (Nat.le_refl _)
      · have hd : (x.1 == n) = false := decide_eq_false he
        have HE : Hid (∀ j (hj : j < l.length), j < i + 1 → l[j].1 ≠ n) := HN.out he
        clear he HI HN
        go_wp2
        go_roundw
        case rel => exact ⟨i + 1, by go_num, by omega, HE, HA.out.2.2⟩
        case measure => simp [intOf]; omega
    · have HE : Hid (img l n = var n) := img_no fun k hk => hno k hk (by omega)
      have HB : Hid (Below w.heap.size w wr) := hb0
      clear hno hwr hzr hz hb0
      go_wp2
      refine bodyPost_ret (v := tval (var n) (.slice none 0 0)) (by simp [results, Try.results113, go_sem, *, var, T.v, T.fn]) rfl ⟨_, by rw [HE], by rw [HE]; exact (ArgsFr.nil 0 _).args, ?_⟩
      exact set3_below HB.out _ 0 _ _ _ (Nat.le_refl _)

/-- What Put does at a term. -/
def PutAt (W0 : World) (v : Value) (l : List Bd) (t : T) : Prop :=
  ∀ (sl : Value) (w : World), Below W0.heap.size W0 w → ArgsAt W0 sl t.args → t.shape = true →
    Calls Try.prog 87 #[v, tval t sl] w fun e W' => ∃ sl', e = .returned (tval (t.app (img l)) sl') ∧ ArgsP (fun b => b < W0.heap.size ∨ w.heap.size ≤ b) W' sl' (t.app (img l)).args ∧ Below w.heap.size w W'

set_option maxRecDepth 100000 in
set_option maxHeartbeats 2000000 in
theorem put_var (W0 : World) (v : Value) (l : List Bd) (hl : BindsAt W0 v l) (t : T) (a : Option Addr) (m c : Nat) (w : World) (hw : Below W0.heap.size W0 w) (h0 : t.fn.size = 0) :
    Calls Try.prog 87 #[v, tval t (.slice a m c)] w fun e W' => ∃ sl', e = .returned (tval (t.app (img l)) sl') ∧ ArgsP (fun b => b < W0.heap.size ∨ w.heap.size ≤ b) W' sl' (t.app (img l)).args ∧ Below w.heap.size w W' := by
  have hap : t.app (img l) = img l t.v := by rw [T.app_eq, if_pos h0]
  rw [hap]
  have hdd : t.fn.toList.isEmpty = true := by rw [ba_isEmpty]; exact decide_eq_true h0
  have hb2 : Below w.heap.size w ((w.alloc (tbox t (.slice a m c))).alloc (.cells #[.int .i64 0, .string ⟨#[]⟩, .slice none 0 0] 26)) := below_box2 w _ _
  have hz := (MapKept.heap_alloc (w.alloc (tbox t (.slice a m c))) (.cells #[.int .i64 0, .string ⟨#[]⟩, .slice none 0 0] 26)).1
  rw [World.size_alloc] at hz
  have hc := of_any W0 l t.v v hl _ (hw.trans (hb2.mono hw.size))
  obtain ⟨a', c', rfl⟩ := hl.slice
  obtain ⟨t0, t1, t2⟩ := tbox_cells w t (.slice a m c)
  have hbb := below_box (w.alloc (tbox t (.slice a m c))) (.cells #[.int .i64 0, .string ⟨#[]⟩, .slice none 0 0] 26)
  have t0' := kc hbb (by simp) t0
  have t1' := kc hbb (by simp) t1
  obtain ⟨u, hu⟩ : ∃ u, img l t.v = u := ⟨_, rfl⟩
  rw [hu] at hc ⊢
  clear t0 t1 t2 hbb hap h0 hu hl
  go_enter Try.func87, Try.ntmps87
  go_wp2_with (first | (go_at_call 113; refine hc.mono ?_; rintro e w3 ⟨sl, rfl, hA3, hb3⟩; obtain ⟨pa, pc, rfl, _, _⟩ := hA3.slice; have hz3 := (hb3.block (w.heap.size + 1) (by simp)).trans hz; obtain ⟨⟨z0, z1, z2⟩, y0, y1, y2⟩ := box_facts hz3; have HF : Hid (ArgsAt W0 (.slice pa u.args.length pc) u.args ∧ Below w.heap.size w w3) := ⟨hA3, hb2.trans (hb3.mono (by simp; omega))⟩; clear hA3 hb3 hz3))
  refine bodyPost_ret (v := tval u (.slice pa u.args.length pc)) (by simp [results, Try.results87, go_sem, *]) rfl ⟨_, rfl, ?_, ?_⟩
  · have hfin : Below W0.heap.size W0 (set3 w3 (w.heap.size + 1) 0 (.int .i64 u.v) (.string u.fn) (.slice pa u.args.length pc)) := hw.trans ((set3_below HF.out.2 (w.heap.size + 1) 0 _ _ _ (Nat.le_succ _)).mono hw.size)
    exact HF.out.1.belowP.keep hfin.size (fun k hk _ => ⟨.inl hk, hfin.block k hk⟩)
  · exact set3_below HF.out.2 _ 0 _ _ _ (Nat.le_succ _)

/-- What a round of Put leaves. -/
structure PutI (W0 w : World) (t : T) (sl : Value) (σ : Int → T) (k : Nat) (v : Value) (ps : List (T × Value)) (W : World) : Prop where
  args : ps.map (·.1) = (t.args.take k).map (T.app σ)
  ok : ∀ p ∈ ps, ArgsP (fun b => (b < W0.heap.size ∨ w.heap.size + 3 ≤ b) ∧ v.ownBlock ≠ some b) W p.2 p.1.args
  row : W.ownsRow (w.heap.size + 3) 26 3 v k (flatT ps)
  out : W.heap[w.heap.size + 1 + 1]? = some (.cells #[.int .i64 0, .string t.fn, v] 26 (0, 0))
  tb : W.heap[w.heap.size]? = some (.cells #[.int .i64 t.v, .string t.fn, sl] 26 (0, 0))
  rb : W.heap[w.heap.size + 1]? = some (.cells #[.int .i64 0, .string ⟨#[]⟩, .slice none 0 0] 26 (0, 0))
  bel : Below w.heap.size w W
  siz : w.heap.size + 3 ≤ W.heap.size

theorem put_end {W0 w : World} {t : T} {sl : Value} {σ : Int → T} {k : Nat} {v : Value} {ps : List (T × Value)} {wr : World} (h : PutI W0 w t sl σ k v ps wr) (hW0 : W0.heap.size ≤ w.heap.size) (hlt : k < t.args.length) (u : T) (hu : t.args[k].app σ = u) (s5 : Value) (W5 X w6 : World) (hX : Below wr.heap.size wr W5) (hX5 : Below W5.heap.size W5 X) (hA : ArgsP (fun b => b < W0.heap.size ∨ wr.heap.size ≤ b) W5 s5 u.args) (v' : Value)
    (hown : w6.ownsRow (w.heap.size + 3) 26 3 v' (k + 1) (flatT ps ++ [.int .i64 u.v, .string u.fn, s5])) (hg : X.grownBy w6 v.ownBlock) (hat : v'.ownBlock = v.ownBlock ∨ v'.ownBlock = some X.heap.size) :
    PutI W0 w t sl σ (k + 1) v' (ps ++ [(u, s5)]) (w6.setCell ⟨w.heap.size + 1 + 1, 2, none⟩ v') := by
  have hsz := h.siz
  have hXs := hX.size
  have hX5s := hX5.size
  have hgs := hg.size
  have hvl : ∀ g, v.ownBlock = some g → w.heap.size + 3 ≤ g ∧ g < wr.heap.size := fun g e => h.row.lt g e
  have hv'l : ∀ g, v'.ownBlock = some g → w.heap.size + 3 ≤ g := fun g e => (hown.lt g e).1
  -- what lies in an older block, other than the row's and the box', is kept
  have kp : ∀ k, k < wr.heap.size → v.ownBlock ≠ some k → k ≠ w.heap.size + 1 + 1 → (w6.setCell ⟨w.heap.size + 1 + 1, 2, none⟩ v').heap[k]? = wr.heap[k]? := fun k hk hv hb => by
    rw [Below.heap_setCell _ _ _ k hb, hg.block k (by omega) (fun e => hv e.symm), hX5.block k (by omega), hX.block k hk]
  have kp5 : ∀ k, k < W5.heap.size → v.ownBlock ≠ some k → k ≠ w.heap.size + 1 + 1 → (w6.setCell ⟨w.heap.size + 1 + 1, 2, none⟩ v').heap[k]? = W5.heap[k]? := fun k hk hv hb => by
    rw [Below.heap_setCell _ _ _ k hb, hg.block k (by omega) (fun e => hv e.symm), hX5.block k hk]
  have hn : ∀ j, j < w.heap.size + 3 → v.ownBlock ≠ some j := fun j hj e => by have := hvl j e; omega
  have hv'b : ∀ b, b < X.heap.size → v.ownBlock ≠ some b → v'.ownBlock ≠ some b := fun b hb hne => by
    rcases hat with e | e
    · rw [e]; exact hne
    · rw [e]; intro e2; have := Option.some.inj e2; omega
  have hout : w6.heap[w.heap.size + 1 + 1]? = some (.cells #[.int .i64 0, .string t.fn, v] 26 (0, 0)) := by
    rw [hg.block _ (by omega) (fun e => hn _ (by omega) e.symm), hX5.block _ (by omega), hX.block _ (by omega)]
    exact h.out
  refine ⟨?_, fun p hp => ?_, ?_, ?_, ?_, ?_, ?_, ?_⟩
  · rw [List.map_append, h.args, List.take_succ_eq_append_getElem hlt, List.map_append]
    simp [hu]
  · rcases List.mem_append.1 hp with hp | hp
    · refine (h.ok p hp).keep (by simp; omega) (fun b ⟨hb, hne⟩ hlt => ⟨⟨hb, hv'b b (by omega) hne⟩, kp b hlt hne ?_⟩)
      rcases hb with hb | hb <;> omega
    · simp at hp
      subst hp
      refine hA.keep (by simp; omega) (fun b hb hlt => ?_)
      have hne : v.ownBlock ≠ some b := fun e => by have := hvl b e; rcases hb with hb | hb <;> omega
      refine ⟨⟨?_, hv'b b (by omega) hne⟩, kp5 b hlt hne ?_⟩
      · rcases hb with hb | hb
        · exact .inl hb
        · exact .inr (by omega)
      · rcases hb with hb | hb <;> omega
  · rw [flatT_snoc]
    exact row_keep hown (fun g hg => Below.heap_setCell _ _ _ g (by have := hv'l g hg; intro e; have : g = w.heap.size + 1 + 1 := e; omega))
  · have := heap_setCell_same w6 (w.heap.size + 1 + 1) 2 _ 26 v' hout
    simpa using this
  · rw [kp _ (by omega) (hn _ (by omega)) (by omega)]; exact h.tb
  · rw [kp _ (by omega) (hn _ (by omega)) (by omega)]; exact h.rb
  · exact h.bel.trans ⟨by rw [show (w6.setCell ⟨w.heap.size + 1 + 1, 2, none⟩ v').os = w6.os from rfl, hg.os, hX5.os, hX.os], by rw [show (w6.setCell ⟨w.heap.size + 1 + 1, 2, none⟩ v').tape = w6.tape from rfl, hg.tape, hX5.tape, hX.tape], by rw [show (w6.setCell ⟨w.heap.size + 1 + 1, 2, none⟩ v').output = w6.output from rfl, hg.output, hX5.output, hX.output], by simp; omega, fun j hj => kp j (by omega) (hn j (by omega)) (by omega)⟩
  · simp; omega

theorem put_start (W0 w : World) (t : T) (sl : Value) (σ : Int → T) : PutI W0 w t sl σ 0 (.slice none 0 0) []
    (((w.alloc (.cells #[.int .i64 t.v, .string t.fn, sl] 26)).alloc (.cells #[.int .i64 0, .string ⟨#[]⟩, .slice none 0 0] 26)).alloc (.cells #[.int .i64 0, .string t.fn, .slice none 0 0] 26)) := by
  have h1 := (MapKept.heap_alloc w (.cells #[.int .i64 t.v, .string t.fn, sl] 26)).1
  have h2 := (MapKept.heap_alloc (w.alloc (.cells #[.int .i64 t.v, .string t.fn, sl] 26)) (.cells #[.int .i64 0, .string ⟨#[]⟩, .slice none 0 0] 26)).1
  have h3 := (MapKept.heap_alloc ((w.alloc (.cells #[.int .i64 t.v, .string t.fn, sl] 26)).alloc (.cells #[.int .i64 0, .string ⟨#[]⟩, .slice none 0 0] 26)) (.cells #[.int .i64 0, .string t.fn, .slice none 0 0] 26)).1
  rw [World.size_alloc] at h2
  rw [World.size_alloc, World.size_alloc] at h3
  refine ⟨rfl, fun p hp => absurd hp (by simp), World.ownsRow_nil _ _ _ _, h3, ?_, ?_, (below_box2 w _ _).trans ((below_box _ _).mono (by simp; omega)), by simp⟩
  · rw [Below.heap_alloc _ _ _ (by simp; omega), Below.heap_alloc _ _ _ (by simp)]
    exact h1
  · rw [Below.heap_alloc _ _ _ (by simp)]
    exact h2

theorem put_last {W0 w : World} {t : T} {sl : Value} {σ : Int → T} {v : Value} {ps : List (T × Value)} {wr : World} (h : PutI W0 w t sl σ t.args.length v ps wr) (hW0 : W0.heap.size ≤ w.heap.size) : ArgsP (fun b => b < W0.heap.size ∨ w.heap.size ≤ b) (set3 wr (w.heap.size + 1) 0 (.int .i64 0) (.string t.fn) v) v (t.args.map (T.app σ)) ∧ Below w.heap.size w (set3 wr (w.heap.size + 1) 0 (.int .i64 0) (.string t.fn) v) := by
  have hvl : ∀ g, v.ownBlock = some g → w.heap.size + 3 ≤ g ∧ g < wr.heap.size := fun g e => h.row.lt g e
  refine ⟨argsP_of_row (row_keep h.row fun g hg => set3_other _ _ _ _ _ _ g (by have := hvl g hg; omega)) (by simp) (by rw [h.args, List.take_length]) (fun b hb => .inr (by omega)) (fun p hp => (h.ok p hp).keep (by rw [set3_size]; exact Nat.le_refl _) (fun b ⟨hb, _⟩ _ => ⟨?_, set3_other _ _ _ _ _ _ b ?_⟩)), set3_below h.bel _ 0 _ _ _ (Nat.le_succ _)⟩
  · rcases hb with hb | hb
    · exact .inl hb
    · exact .inr (by omega)
  · rcases hb with hb | hb <;> omega

set_option maxRecDepth 100000 in
set_option maxHeartbeats 2000000 in
theorem put_fn (W0 : World) (v : Value) (l : List Bd) (hl : BindsAt W0 v l) (t : T) (ih : ∀ a ∈ t.args, PutAt W0 v l a) (a : Option Addr) (c : Nat) (w : World) (hw : Below W0.heap.size W0 w) (ha : ArgsAt W0 (.slice a t.args.length c) t.args) (hsh : t.shape = true) (h0 : t.fn.size ≠ 0) :
    Calls Try.prog 87 #[v, tval t (.slice a t.args.length c)] w fun e W' => ∃ sl', e = .returned (tval (t.app (img l)) sl') ∧ ArgsP (fun b => b < W0.heap.size ∨ w.heap.size ≤ b) W' sl' (t.app (img l)).args ∧ Below w.heap.size w W' := by
  have hap : t.app (img l) = .mk 0 t.fn (t.args.map (T.app (img l))) := by rw [T.app_eq, if_neg h0]
  rw [hap]
  have hdd : t.fn.toList.isEmpty = false := by rw [ba_isEmpty]; exact decide_eq_false h0
  rw [T.shape_eq, if_neg h0] at hsh
  simp only [Bool.and_eq_true, decide_eq_true_eq, List.all_eq_true] at hsh
  obtain ⟨⟨hx16, h16⟩, hshs⟩ := hsh
  clear hx16
  obtain ⟨a', c', rfl⟩ := hl.slice
  obtain ⟨t0, t1, t2⟩ := tbox_cells w t (.slice a t.args.length c)
  have hbb := below_box (w.alloc (tbox t (.slice a t.args.length c))) (.cells #[.int .i64 0, .string ⟨#[]⟩, .slice none 0 0] 26)
  have t0' := kc hbb (by simp) t0
  have t1' := kc hbb (by simp) t1
  have HAA : Hid (ArgsAt W0 (.slice a t.args.length c) t.args) := ha
  have HIH : Hid (∀ a ∈ t.args, PutAt W0 (.slice a' l.length c') l a) := ih
  clear t0 t1 t2 hbb hap h0 hl ih ha
  go_enter Try.func87, Try.ntmps87
  go_wp2
  go_loopw [6] (fun i wr => ∃ k : Nat, k ≤ t.args.length ∧ i = .int .i64 k ∧ Hid (∃ vv ps, PutI W0 w t (.slice a t.args.length c) (img l) k vv ps wr)) (fun i _ => t.args.length - (intOf i).toNat)
  case atStart =>
    refine ⟨0, Nat.zero_le _, rfl, .slice none 0 0, [], ?_⟩
    exact put_start W0 w t (.slice a t.args.length c) (img l)
  case round =>
    obtain ⟨k, hk, rfl, vv, ps, HI⟩ := hrel
    have HP : Hid (PutI W0 w t (.slice a t.args.length c) (img l) k vv ps wr) := HI
    obtain ⟨⟨b0, b1, b2⟩, y0, y1, y2⟩ := box_facts HI.tb
    obtain ⟨⟨o0, o1, o2⟩, x0, x1, x2⟩ := box_facts HI.out
    clear HI
    by_cases hlt : k < t.args.length
    · have hki : ((k : Int) < (t.args.length : Int)) := by omega
      obtain ⟨b, o, s, e1, hbl, c0, c1, c2, hs⟩ := HAA.out.nth hlt
      cases e1
      have hW : Below W0.heap.size W0 wr := hw.trans (HP.out.bel.mono hw.size)
      have hcall := HIH.out t.args[k] (List.getElem_mem hlt) s wr.drew hW.drew hs (hshs _ (List.getElem_mem hlt))
      obtain ⟨sa, sc, rfl, _, _⟩ := hs.slice
      have c0' := kc hW hbl c0
      have c1' := kc hW hbl c1
      have c2' := kc hW hbl c2
      obtain ⟨u, hu⟩ : ∃ u, t.args[k].app (img l) = u := ⟨_, rfl⟩
      rw [hu] at hcall
      have HU : Hid (t.args[k].app (img l) = u) := hu
      obtain ⟨q, hq⟩ : ∃ q, t.args[k] = q := ⟨_, rfl⟩
      simp only [hq] at hcall c0' c1' c2'
      have hcall2 := hcall.mono (R' := fun e' W5 => ∃ a5 c5, e' = .returned (.agg #[.int .i64 u.v, .string u.fn, .slice a5 u.args.length c5]) ∧ W5.cell? ⟨w.heap.size + 1 + 1, 2, none⟩ = some vv ∧ (∀ o, (W5.alloc o).cell? ⟨w.heap.size + 1 + 1, 2, none⟩ = some vv) ∧ Hid (∀ o, (W5.alloc o).ownsRow (w.heap.size + 3) 26 3 vv k (flatT ps)) ∧ Hid (∀ o, (W5.alloc o).heap[w.heap.size + 1 + 1]? = some (.cells #[.int .i64 0, .string t.fn, vv] 26 (0, 0))) ∧ Hid (Below wr.heap.size wr W5 ∧ ArgsP (fun b => b < W0.heap.size ∨ wr.heap.size ≤ b) W5 (.slice a5 u.args.length c5) u.args)) (by
        rintro e' W5 ⟨s5, he5, hA5, hb5⟩
        obtain ⟨a5, c5, rfl⟩ := hA5.slice
        have hb5' : Below wr.heap.size wr W5 := (Below.refl _ _).drew.trans hb5
        have hb6 : ∀ o, Below wr.heap.size wr (W5.alloc o) := fun o => hb5'.trans ((below_box W5 o).mono hb5'.size)
        have hol := (Array.getElem?_eq_some_iff.1 HP.out.out).1
        exact ⟨a5, c5, he5, kc hb5' hol o2, fun o => kc (hb6 o) hol o2, fun o => row_keep HP.out.row (fun g hg => (hb6 o).block g (HP.out.row.lt g hg).2), fun o => ((hb6 o).block _ hol).trans HP.out.out, hb5', hA5⟩)
      obtain ⟨i0, hi0, hz0, hz1, hz2⟩ := info_parts Try.info26
      have o2d : wr.drew.cell? ⟨w.heap.size + 1 + 1, 2, none⟩ = some vv := o2
      have HV : Hid (vv.ownBlock ≠ some (w.heap.size + 1 + 1) ∧ w.heap.size + 3 ≤ wr.heap.size) := ⟨fun e => by have := (HP.out.row.lt _ e).1; omega, HP.out.siz⟩
      clear hcall hu HIH hq hs
      go_wp2
      go_region_law (first
        | (refine step_append_own _ rfl (.tmp 25) (.tmp 33) 24 rfl (w.heap.size + 3) 26 i0 _ 3 48 Try.underlying24 hi0 hz0 hz1 hz2 rfl (by decide) vv k (flatT ps) rfl (HW5.out _) ⟨W5.heap.size, 0, none⟩ 1 1 [.int .i64 u.v, .string u.fn, .slice a5 u.args.length c5] rfl rfl (fun j x hj => by { rw [Addr.add_mid, Nat.zero_add, cell_of_row _ _ _ _ 26 (0, 0) (MapKept.heap_alloc W5 _).1]; simpa using hj }) (by { intro x hx; simp only [List.mem_cons, List.not_mem_nil, or_false] at hx; rcases hx with rfl | rfl | rfl <;> rfl }) (by unfold maxLen; omega) (by omega) (by { have := HB5.out.1.size; have := HV.out.2; simp; omega }) ?_; intro v' w6 hrow6 hg6 hb6; obtain ⟨a6, c6, rfl⟩ := row_slice hrow6; have hb66 := (hg6.block (w.heap.size + 1 + 1) (Array.getElem?_eq_some_iff.1 (HX5.out _)).1 (fun h => HV.out.1 h.symm)).trans (HX5.out _); have hc6 : w6.cell? ⟨w.heap.size + 1 + 1, 2, none⟩ = some vv := by { rw [cell_of_row _ _ _ #[Value.int .i64 0, .string t.fn, vv] 26 (0, 0) hb66]; rfl }; have hf6 : w6.frozen? ⟨w.heap.size + 1 + 1, 2, none⟩ = false := by { simp [World.frozen?, hb66] })
        | (go_simp; go_at_call 87; refine hcall2.mono ?_; rintro _ W5 ⟨a5, c5, rfl, hcell5, hcell5', HW5, HX5, HB5⟩; go_simp))
      all_goals (
        have HE : Hid (PutI W0 w t (.slice (some ⟨b, o, none⟩) t.args.length c) (img l) (k + 1) (.slice a6 (k + 1) c6) (ps ++ [(u, .slice a5 u.args.length c5)]) (w6.setCell ⟨w.heap.size + 1 + 1, 2, none⟩ (.slice a6 (k + 1) c6))) := put_end HP.out hw.size hlt u HU.out _ W5 _ w6 HB5.out.1 (below_box W5 _) HB5.out.2 _ hrow6 hg6 hb6
        go_wp2
        go_roundw
        case rel => exact ⟨k + 1, by omega, by go_num, _, _, HE.out⟩
        case measure => simp [intOf]; omega)
    · have hke : k = t.args.length := by omega
      subst hke
      obtain ⟨av, cv, rfl⟩ := row_slice HP.out.row
      obtain ⟨⟨d0, d1, d2⟩, z0, z1, z2⟩ := box_facts HP.out.rb
      have HA : Hid (ArgsP (fun b => b < W0.heap.size ∨ w.heap.size ≤ b) (set3 wr (w.heap.size + 1) 0 (.int .i64 0) (.string t.fn) (.slice av t.args.length cv)) (.slice av t.args.length cv) (t.args.map (T.app (img l))) ∧ Below w.heap.size w (set3 wr (w.heap.size + 1) 0 (.int .i64 0) (.string t.fn) (.slice av t.args.length cv))) := put_last HP.out hw.size
      clear HIH
      go_wp2
      exact bodyPost_ret (v := tval (.mk 0 t.fn (t.args.map (T.app (img l)))) (.slice av t.args.length cv)) (by simp [results, Try.results87, go_sem, *, T.v, T.fn]) rfl ⟨_, rfl, HA.out⟩

theorem put_any (W0 : World) (v : Value) (l : List Bd) (hl : BindsAt W0 v l) (t : T) : PutAt W0 v l t := by
  induction t using T.ind with
  | _ t ih =>
    intro sl w hw ha hsh
    obtain ⟨a, c, rfl, _, _⟩ := ha.slice
    by_cases h0 : t.fn.size = 0
    · exact put_var W0 v l hl t a _ c w hw h0
    · exact put_fn W0 v l hl t ih a c w hw ha hsh h0

end Go.Proofs.Ytgnjgpplelakkaa

/-
  Rows of binds; the document's With.
-/
namespace Go.Proofs.Ytgnjgpplelakkaa
open Go.RowKit Go.Maps

/-- Rising numbers. -/
def Rising (l : List Bd) : Prop := ∀ i j (hj : j < l.length) (hij : i < j), l[i].1 < l[j].1

theorem rising_iff {l : List Bd} : Rising l ↔ l.Pairwise fun a b => a.1 < b.1 := by
  rw [List.pairwise_iff_getElem]
  constructor
  · intro h i j hi hj hij
    exact h i j hj hij
  · intro h i j hj hij
    exact h i j (by omega) hj hij

theorem bbox_cells (w : World) (x : Bd) (s : Value) : (w.alloc (bbox x s)).cell? ⟨w.heap.size, 0, none⟩ = some (.int .i64 x.1) ∧ (w.alloc (bbox x s)).cell? ⟨w.heap.size, 1, none⟩ = some (.int .i64 x.2.v) ∧ (w.alloc (bbox x s)).cell? ⟨w.heap.size, 2, none⟩ = some (.string x.2.fn) ∧ (w.alloc (bbox x s)).cell? ⟨w.heap.size, 3, none⟩ = some s := by
  refine ⟨?_, ?_, ?_, ?_⟩ <;> rw [World.cell?_alloc_new] <;> rfl


theorem Try.info96 : (Try.prog.info? 96).map (fun i => (i.zero, i.size, i.bytes)) = some (some (.agg #[.int .i64 0, .int .i64 0, .string ⟨#[]⟩, .slice none 0 0]), 4, 56) := by kernel_rfl

/-- The cells of a row of binds. -/
def flatB (ps : List (Bd × Value)) : List Value := ps.flatMap fun p => [.int .i64 p.1.1, .int .i64 p.1.2.v, .string p.1.2.fn, p.2]
theorem flatB_snoc (ps : List (Bd × Value)) (p : Bd × Value) : flatB (ps ++ [p]) = flatB ps ++ [.int .i64 p.1.1, .int .i64 p.1.2.v, .string p.1.2.fn, p.2] := by simp [flatB]
theorem flatB_len (ps : List (Bd × Value)) : (flatB ps).length = ps.length * 4 := by
  unfold flatB
  induction ps with
  | nil => rfl
  | cons p r ih => simp only [List.flatMap_cons, List.length_append, ih, List.length_cons, List.length_nil]; omega
theorem flatB_get : ∀ (ps : List (Bd × Value)) (i : Nat) (h : i < ps.length), (flatB ps)[i * 4]? = some (.int .i64 ps[i].1.1) ∧ (flatB ps)[i * 4 + 1]? = some (.int .i64 ps[i].1.2.v) ∧ (flatB ps)[i * 4 + 2]? = some (.string ps[i].1.2.fn) ∧ (flatB ps)[i * 4 + 3]? = some ps[i].2
  | [], i, h => absurd h (by simp)
  | p :: r, 0, _ => by simp [flatB]
  | p :: r, i + 1, h => by
    have ih := flatB_get r i (by simpa using h)
    have e : flatB (p :: r) = [.int .i64 p.1.1, .int .i64 p.1.2.v, .string p.1.2.fn, p.2] ++ flatB r := rfl
    have hs : ∀ k, (flatB (p :: r))[4 + k]? = (flatB r)[k]? := fun k => by
      rw [e, List.getElem?_append_right (by simp)]
      simp
    have e0 : (i + 1) * 4 = 4 + i * 4 := by omega
    rw [e0, show 4 + i * 4 + 1 = 4 + (i * 4 + 1) by omega, show 4 + i * 4 + 2 = 4 + (i * 4 + 2) by omega, show 4 + i * 4 + 3 = 4 + (i * 4 + 3) by omega, hs, hs, hs, hs]
    simpa using ih

/-- A row of binds of one's own. -/
structure OwnB (w : World) (v : Value) (ps : List (Bd × Value)) (W : World) : Prop where
  row : W.ownsRow w.heap.size 96 4 v ps.length (flatB ps)
  bel : Below w.heap.size w W

theorem rowB_form {W : World} {b : Nat} {e : TypeId} {s : Nat} {v : Value} {n : Nat} {xs : List Value} (h : W.ownsRow b e s v n xs) : ∃ a c, v = .slice a n c := by
  rcases h.2 with ⟨rfl, h0⟩ | ⟨g, cap, cur, rfl, _⟩
  · exact ⟨none, 0, by rw [h0]⟩
  · exact ⟨_, _, rfl⟩

theorem rowB_below {W W' : World} {b : Nat} {e : TypeId} {s : Nat} {v : Value} {n : Nat} {xs : List Value} (h : W.ownsRow b e s v n xs) (hb : Below W.heap.size W W') : W'.ownsRow b e s v n xs :=
  h.kept (row := none) ⟨hb.os, hb.tape, hb.output, hb.size, fun k hk _ => hb.block k hk⟩ (by cases v.ownBlock <;> simp)

theorem OwnB.push {w : World} {v : Value} {ps : List (Bd × Value)} {W : World} (h : OwnB w v ps W) (p : Bd × Value) (v' : Value) (w3 : World) (hown : w3.ownsRow w.heap.size 96 4 v' (ps.length + 1) (flatB ps ++ [.int .i64 p.1.1, .int .i64 p.1.2.v, .string p.1.2.fn, p.2])) (o : Obj) (hg : (W.alloc o).grownBy w3 v.ownBlock) : OwnB w v' (ps ++ [p]) w3 := by
  refine ⟨by rw [flatB_snoc, List.length_append, List.length_singleton]; exact hown, h.bel.trans (((below_box W _).mono h.bel.size).trans ⟨hg.os, hg.tape, hg.output, hg.size, fun j hj => hg.block j (by have := h.bel.size; simp; omega) (fun e => by have := (h.row.lt j e.symm).1; omega)⟩)⟩

theorem OwnB.keep {w : World} {v : Value} {ps : List (Bd × Value)} {W W' : World} (h : OwnB w v ps W) (hb : Below W.heap.size W W') : OwnB w v ps W' := ⟨rowB_below h.row hb, h.bel.trans (hb.mono h.bel.size)⟩

/-- A row of one's own is a slice of binds. -/
theorem binds_of_row {W : World} {base : Nat} {v : Value} {ps : List (Bd × Value)} (h : W.ownsRow base 96 4 v ps.length (flatB ps)) (hs : ∀ p ∈ ps, ArgsAt W p.2 p.1.2.args) : BindsAt W v (ps.map (·.1)) := by
  rcases h.2 with ⟨rfl, h0⟩ | ⟨g, cap, cur, rfl, hb, hg, hn, hm, hsz, ht⟩
  · have e : ps = [] := List.eq_nil_of_length_eq_zero h0
    subst e
    exact ⟨none, 0, rfl, Nat.le_refl _, by decide, fun h => absurd h (by simp)⟩
  · refine ⟨some ⟨g, 0, none⟩, cap, by rw [List.length_map], by rw [List.length_map]; exact hn, by unfold maxLen at hm; omega, fun _ => ⟨g, 0, rfl, fun i hi => ?_⟩⟩
    have hi' : i < ps.length := by simpa using hi
    obtain ⟨f0, f1, f2, f3⟩ := flatB_get ps i hi'
    have ea : ∀ k, (⟨g, 0, none⟩ : Addr).add k = ⟨g, k, none⟩ := fun k => by unfold Addr.add; split <;> simp_all
    have c0 := h.cells rfl _ _ f0
    have c1 := h.cells rfl _ _ f1
    have c2 := h.cells rfl _ _ f2
    have c3 := h.cells rfl _ _ f3
    rw [ea] at c0 c1 c2 c3
    refine ⟨ps[i].2, ⟨(Array.getElem?_eq_some_iff.1 hg).1, ?_, ?_, ?_, ?_, ?_⟩⟩
    · rw [Nat.zero_add]; simpa using c0
    · rw [Nat.zero_add]; simpa using c1
    · rw [Nat.zero_add]; simpa using c2
    · rw [Nat.zero_add]; exact c3
    · simpa using hs ps[i] (List.getElem_mem hi')

theorem lit4 (w : World) (u v s r : Value) (ty : TypeId) : ∀ j x, [u, v, s, r][j]? = some x → (w.alloc (.cells #[u, v, s, r] ty)).cell? ((⟨w.heap.size, 0, none⟩ : Addr).add j) = some x := by
  intro j x hj
  have ea : (⟨w.heap.size, 0, none⟩ : Addr).add j = ⟨w.heap.size, j, none⟩ := by unfold Addr.add; split <;> simp_all
  rw [ea, World.cell?_alloc_new]
  simpa using hj


/-- Binds, rising, and one more. -/
def withL : List Bd → Bd → List Bd
  | [], x => [x]
  | y :: r, x => if y.1 ≤ x.1 then y :: withL r x else x :: y :: r

theorem withL_end : ∀ (l : List Bd) (x : Bd), (∀ y ∈ l, y.1 ≤ x.1) → withL l x = l ++ [x]
  | [], _, _ => rfl
  | y :: r, x, h => by
    rw [withL, if_pos (h y List.mem_cons_self), withL_end r x fun z hz => h z (List.mem_cons_of_mem _ hz)]
    rfl

theorem withL_at : ∀ (l : List Bd) (x : Bd) (i : Nat) (hi : i < l.length), (∀ y ∈ l.take i, y.1 ≤ x.1) → x.1 < l[i].1 → withL l x = l.take i ++ x :: l.drop i
  | y :: r, x, 0, _, _, hx => by
    have hx' : x.1 < y.1 := by simpa using hx
    rw [withL, if_neg (by omega)]
    rfl
  | y :: r, x, i + 1, hi, h, hx => by
    have h0 : y.1 ≤ x.1 := h y (by simp)
    rw [withL, if_pos h0, withL_at r x i (by simpa using hi) (fun z hz => h z (by simp [hz])) (by simpa using hx)]
    rfl

theorem withL_perm : ∀ (l : List Bd) (x : Bd), (withL l x).Perm (x :: l)
  | [], x => List.Perm.refl _
  | y :: r, x => by
    rw [withL]
    by_cases h : y.1 ≤ x.1
    · rw [if_pos h]
      exact ((withL_perm r x).cons y).trans (List.Perm.swap x y r)
    · rw [if_neg h]

theorem withL_rising {l : List Bd} {x : Bd} (hl : Rising l) (hx : ∀ y ∈ l, y.1 ≠ x.1) : Rising (withL l x) := by
  rw [rising_iff] at hl ⊢
  induction l with
  | nil => simp [withL]
  | cons y r ih =>
    obtain ⟨h1, h2⟩ := List.pairwise_cons.1 hl
    rw [withL]
    by_cases h : y.1 ≤ x.1
    · rw [if_pos h]
      refine List.pairwise_cons.2 ⟨fun z hz => ?_, ih h2 fun z hz => hx z (List.mem_cons_of_mem _ hz)⟩
      rcases List.mem_cons.1 ((withL_perm r x).mem_iff.1 hz) with e | e
      · rw [e]; have := hx y List.mem_cons_self; omega
      · exact h1 z e
    · rw [if_neg h]
      refine List.pairwise_cons.2 ⟨fun z hz => ?_, hl⟩
      rcases List.mem_cons.1 hz with e | e
      · rw [e]; omega
      · have := h1 z e; omega

/-- What stands in With's loop. -/
def WJ (w : World) (l : List Bd) (x : Bd) (i : Nat) (v : Value) (q : Bool) (k : Nat) (W : World) : Prop :=
  ∃ ps : List (Bd × Value), ps.length = k ∧ (∀ p ∈ ps, ArgsAt w p.2 p.1.2.args) ∧ OwnB w v ps W ∧ k ≤ i + 1 ∧
    (q = false → ps.map (·.1) = l.take i ∧ ∀ y ∈ l.take i, y.1 ≤ x.1) ∧ (q = true → ps.map (·.1) ++ l.drop i = withL l x)

theorem len_snoc {α : Type} {ps : List α} {p : α} {k : Nat} (h : ps.length = k) : (ps ++ [p]).length = k + 1 := by simp [h]

set_option maxRecDepth 100000 in
set_option maxHeartbeats 4000000 in
theorem rwith_any (l : List Bd) (x : Bd) (v sx : Value) (w : World) (hl : BindsAt w v l) (hx : ArgsAt w sx x.2.args) (hlen : l.length ≤ 4000) :
    Calls Try.prog 89 #[v, bval x sx] w fun e W' => ∃ v', e = .returned v' ∧ BindsAt W' v' (withL l x) ∧ Below w.heap.size w W' := by
  obtain ⟨a, c, rfl⟩ := hl.slice
  obtain ⟨xa, xc, rfl, _, _⟩ := hx.slice
  obtain ⟨t0, t1, t2, t3⟩ := bbox_cells w x (.slice xa x.2.args.length xc)
  have HL : Hid (BindsAt w (.slice a l.length c) l ∧ ArgsAt w (.slice xa x.2.args.length xc) x.2.args) := ⟨hl, hx⟩
  have HT : Hid (∀ W, Below (w.alloc (bbox x (.slice xa x.2.args.length xc))).heap.size (w.alloc (bbox x (.slice xa x.2.args.length xc))) W → W.cell? ⟨w.heap.size, 0, none⟩ = some (.int .i64 x.1) ∧ W.cell? ⟨w.heap.size, 1, none⟩ = some (.int .i64 x.2.v) ∧ W.cell? ⟨w.heap.size, 2, none⟩ = some (.string x.2.fn) ∧ W.cell? ⟨w.heap.size, 3, none⟩ = some (.slice xa x.2.args.length xc)) := fun W hW => by
    exact ⟨kc hW (by simp) t0, kc hW (by simp) t1, kc hW (by simp) t2, kc hW (by simp) t3⟩
  have HB0 : Hid (Below w.heap.size w (w.alloc (bbox x (.slice xa x.2.args.length xc)))) := below_box w _
  clear hl hx t0 t1 t2 t3
  obtain ⟨i0, hi0, hz0, hz1, hz2⟩ := info_parts Try.info96
  go_enter Try.func89, Try.ntmps89
  go_wp2
  go_loopw [5, 6, 7] (fun vo vq vi wr => ∃ (i k : Nat) (q : Bool), vi = .int .i64 i ∧ vq = .bool q ∧ i ≤ l.length ∧ Hid (WJ (w.alloc (bbox x (.slice xa x.2.args.length xc))) l x i vo q k wr)) (fun _ _ vi _ => l.length - (intOf vi).toNat)
  case atStart => exact ⟨0, 0, false, rfl, rfl, Nat.zero_le _, [], rfl, by simp, ⟨World.ownsRow_nil _ _ _ _, Below.refl _ _⟩, by omega, fun _ => ⟨rfl, by simp⟩, fun h => by cases h⟩
  case round =>
    obtain ⟨i, k, q, rfl, rfl, hi, ps, hk, hargs, hO, hki, hq0, hq1⟩ := hrel
    obtain ⟨pa, pc, hvo⟩ := rowB_form hO.row
    rw [hk] at hvo
    subst hvo
    by_cases hlt : i < l.length
    · obtain ⟨b, o, s, e', hB0⟩ := HL.out.1.nth hlt
      cases e'
      have hbw := HB0.out.trans (hO.bel.mono HB0.out.size)
      have hB := hB0.keep hbw
      obtain ⟨k0, k1, k2, k3⟩ := HT.out wr hO.bel
      have hlx : w.heap.size < wr.heap.size := by have := hO.bel.size; simp at this; omega
      obtain ⟨y, hy⟩ : ∃ y, l[i] = y := ⟨_, rfl⟩
      rw [hy] at hB hB0
      have hsub0 := ArgsAt.keep HB0.out (Nat.le_refl _) hB0.sub
      have HN : Hid (l.take (i + 1) = l.take i ++ [y] ∧ l.drop i = y :: l.drop (i + 1)) := ⟨by rw [List.take_succ_eq_append_getElem hlt, hy], by rw [List.drop_eq_getElem_cons hlt, hy]⟩
      have HWa : Hid (x.1 < y.1 → (∀ z ∈ l.take i, z.1 ≤ x.1) → withL l x = l.take i ++ x :: l.drop i) := fun h1 h2 => withL_at l x i hlt h2 (by rw [hy]; exact h1)
      obtain ⟨sa, sc, rfl, _, _⟩ := hB.sub.slice
      obtain ⟨g0, g1, g2, g3⟩ : wr.cell? ⟨b, o + i * 4, none⟩ = some (.int .i64 y.1) ∧ wr.cell? ⟨b, o + i * 4 + 1, none⟩ = some (.int .i64 y.2.v) ∧ wr.cell? ⟨b, o + i * 4 + 2, none⟩ = some (.string y.2.fn) ∧ wr.cell? ⟨b, o + i * 4 + 3, none⟩ = some (.slice sa y.2.args.length sc) := ⟨hB.c0, hB.c1, hB.c2, hB.c3⟩
      have HY : Hid (∀ W, Below (w.alloc (bbox x (.slice xa x.2.args.length xc))).heap.size (w.alloc (bbox x (.slice xa x.2.args.length xc))) W → W.cell? ⟨b, o + i * 4, none⟩ = some (.int .i64 y.1) ∧ W.cell? ⟨b, o + i * 4 + 1, none⟩ = some (.int .i64 y.2.v) ∧ W.cell? ⟨b, o + i * 4 + 2, none⟩ = some (.string y.2.fn) ∧ W.cell? ⟨b, o + i * 4 + 3, none⟩ = some (.slice sa y.2.args.length sc)) := fun W hW => by
        have hB1 := hB0.keep (HB0.out.trans (hW.mono HB0.out.size))
        exact ⟨hB1.c0, hB1.c1, hB1.c2, hB1.c3⟩
      have f0 := fun p => cell_far hB.lt g0 p
      have f1 := fun p => cell_far hlx k0 p
      have j0 : (i : Int) < (l.length : Int) := by omega
      have HO : Hid (OwnB (w.alloc (bbox x (.slice xa x.2.args.length xc))) (.slice pa k pc) ps wr ∧ ps.length = k ∧ (∀ p ∈ ps, ArgsAt (w.alloc (bbox x (.slice xa x.2.args.length xc))) p.2 p.1.2.args) ∧ ArgsAt (w.alloc (bbox x (.slice xa x.2.args.length xc))) (.slice sa y.2.args.length sc) y.2.args ∧ ArgsAt (w.alloc (bbox x (.slice xa x.2.args.length xc))) (.slice xa x.2.args.length xc) x.2.args) := ⟨hO, hk, hargs, hsub0, ArgsAt.keep HB0.out (Nat.le_refl _) HL.out.2⟩
      have HQ0 : Hid (q = false → ps.map (·.1) = l.take i ∧ ∀ y ∈ l.take i, y.1 ≤ x.1) := hq0
      have HQ1 : Hid (q = true → ps.map (·.1) ++ l.drop i = withL l x) := hq1
      clear hB hB0 hO hargs hk hy hq0 hq1 hsub0 hbw
      cases q
      · by_cases hgt : x.1 < y.1
        · have hd : decide (x.1 < y.1) = true := decide_eq_true hgt
          go_wp2
          go_quiet (fail)
          obtain ⟨W3, hW3⟩ : ∃ W3, wr.drewN nq = W3 := ⟨_, rfl⟩
          have hb3 : Below wr.heap.size wr W3 := by rw [← hW3]; exact ⟨rfl, rfl, rfl, Nat.le_refl _, fun _ _ => rfl⟩
          rw [hW3]
          have HO3 : Hid (OwnB (w.alloc (bbox x (.slice xa x.2.args.length xc))) (.slice pa k pc) ps W3 ∧ ps.length = k) := ⟨HO.out.1.keep hb3, HO.out.2.1⟩
          obtain ⟨m0, m1, m2, m3⟩ := HT.out W3 HO3.out.1.bel
          obtain ⟨r0, r1, r2, r3⟩ := HY.out W3 HO3.out.1.bel
          clear hW3 hb3 f0 f1 g0 g1 g2 g3 k0 k1 k2 k3
          go_wp2_with (first
            | (at_builtin; have HR : Hid ((w4.alloc (.cells #[.int .i64 y.1, .int .i64 y.2.v, .string y.2.fn, (.slice sa y.2.args.length sc)] 96)).ownsRow (w.alloc (bbox x (.slice xa x.2.args.length xc))).heap.size 96 4 (.slice pa4 (k + 1) pc4) (k + 1) (flatB (ps ++ [(x, (.slice xa x.2.args.length xc))]))) := (by { have := (HO4.out.1.keep (below_box w4 (.cells #[.int .i64 y.1, .int .i64 y.2.v, .string y.2.fn, (.slice sa y.2.args.length sc)] 96))).row; rwa [HO4.out.2] at this }); have HS : Hid ((w.alloc (bbox x (.slice xa x.2.args.length xc))).heap.size ≤ (w4.alloc (.cells #[.int .i64 y.1, .int .i64 y.2.v, .string y.2.fn, (.slice sa y.2.args.length sc)] 96)).heap.size) := Nat.le_trans HO4.out.1.bel.size (by simp); refine wpList_append_own_at _ rfl _ _ 70 rfl (w.alloc (bbox x (.slice xa x.2.args.length xc))).heap.size 96 i0 (.agg #[.int .i64 0, .int .i64 0, .string ⟨#[]⟩, .slice none 0 0]) 4 56 Try.underlying70 hi0 hz0 hz1 hz2 rfl (by decide) _ _ _ rfl HR.out ⟨w4.heap.size, 0, none⟩ 1 1 [.int .i64 y.1, .int .i64 y.2.v, .string y.2.fn, (.slice sa y.2.args.length sc)] rfl rfl (lit4 w4 _ _ _ _ 96) (by simp [Value.oneCell']) (by unfold maxLen; omega) (by omega) HS.out ?_; intro v5 w5 h2 h3 _ _; obtain ⟨pa5, pc5, rfl⟩ := rowB_form h2; have HO5 : Hid (OwnB (w.alloc (bbox x (.slice xa x.2.args.length xc))) (.slice pa5 (k + 1 + 1) pc5) ((ps ++ [(x, (.slice xa x.2.args.length xc))]) ++ [(y, (.slice sa y.2.args.length sc))]) w5 ∧ List.length (α := Bd × Value) ((ps ++ [(x, (.slice xa x.2.args.length xc))]) ++ [(y, (.slice sa y.2.args.length sc))]) = k + 1 + 1) := ⟨HO4.out.1.push (y, (.slice sa y.2.args.length sc)) _ w5 (by rw [HO4.out.2]; exact h2) _ h3, len_snoc HO4.out.2⟩; clear h2 h3 HR HS; obtain ⟨r0, r1, r2, r3⟩ := HY.out w5 HO5.out.1.bel)
            | (at_builtin; have HR : Hid ((W3.alloc (.cells #[.int .i64 x.1, .int .i64 x.2.v, .string x.2.fn, (.slice xa x.2.args.length xc)] 96)).ownsRow (w.alloc (bbox x (.slice xa x.2.args.length xc))).heap.size 96 4 (.slice pa k pc) (k) (flatB ps)) := (by { have := (HO3.out.1.keep (below_box W3 (.cells #[.int .i64 x.1, .int .i64 x.2.v, .string x.2.fn, (.slice xa x.2.args.length xc)] 96))).row; rwa [HO3.out.2] at this }); have HS : Hid ((w.alloc (bbox x (.slice xa x.2.args.length xc))).heap.size ≤ (W3.alloc (.cells #[.int .i64 x.1, .int .i64 x.2.v, .string x.2.fn, (.slice xa x.2.args.length xc)] 96)).heap.size) := Nat.le_trans HO3.out.1.bel.size (by simp); refine wpList_append_own_at _ rfl _ _ 70 rfl (w.alloc (bbox x (.slice xa x.2.args.length xc))).heap.size 96 i0 (.agg #[.int .i64 0, .int .i64 0, .string ⟨#[]⟩, .slice none 0 0]) 4 56 Try.underlying70 hi0 hz0 hz1 hz2 rfl (by decide) _ _ _ rfl HR.out ⟨W3.heap.size, 0, none⟩ 1 1 [.int .i64 x.1, .int .i64 x.2.v, .string x.2.fn, (.slice xa x.2.args.length xc)] rfl rfl (lit4 W3 _ _ _ _ 96) (by simp [Value.oneCell']) (by unfold maxLen; omega) (by omega) HS.out ?_; intro v4 w4 h2 h3 _ _; obtain ⟨pa4, pc4, rfl⟩ := rowB_form h2; have HO4 : Hid (OwnB (w.alloc (bbox x (.slice xa x.2.args.length xc))) (.slice pa4 (k + 1) pc4) (ps ++ [(x, (.slice xa x.2.args.length xc))]) w4 ∧ List.length (α := Bd × Value) (ps ++ [(x, (.slice xa x.2.args.length xc))]) = k + 1) := ⟨HO3.out.1.push (x, (.slice xa x.2.args.length xc)) _ w4 (by rw [HO3.out.2]; exact h2) _ h3, len_snoc HO3.out.2⟩; clear h2 h3 HR HS; obtain ⟨r0, r1, r2, r3⟩ := HY.out w4 HO4.out.1.bel))
          go_roundw
          case rel =>
            refine ⟨i + 1, k + 1 + 1, true, by go_num, rfl, by omega, ps ++ [(x, (.slice xa x.2.args.length xc))] ++ [(y, (.slice sa y.2.args.length sc))], HO5.out.2, ?_, HO5.out.1, (by have h1 := congrArg List.length (HQ0.out (by first | rfl | trivial)).1; have h2 := HO.out.2.1; rw [List.length_map, List.length_take] at h1; omega), (fun h => by cases h), (fun _ => ?_)⟩
            · intro p hp
              rcases List.mem_append.1 hp with hp | hp
              · rcases List.mem_append.1 hp with hp | hp
                · exact HO.out.2.2.1 p hp
                · simp at hp; subst hp; exact HO.out.2.2.2.2
              · simp at hp; subst hp; exact HO.out.2.2.2.1
            · obtain ⟨h1, h2⟩ := HQ0.out (by first | rfl | trivial)
              rw [HWa.out hgt h2, HN.out.2, List.map_append, List.map_append, h1]
              simp
          case measure => simp [intOf]; omega
        · have hd : decide (x.1 < y.1) = false := decide_eq_false hgt
          go_wp2
          go_quiet (fail)
          obtain ⟨W3, hW3⟩ : ∃ W3, wr.drewN nq = W3 := ⟨_, rfl⟩
          have hb3 : Below wr.heap.size wr W3 := by rw [← hW3]; exact ⟨rfl, rfl, rfl, Nat.le_refl _, fun _ _ => rfl⟩
          rw [hW3]
          have HO3 : Hid (OwnB (w.alloc (bbox x (.slice xa x.2.args.length xc))) (.slice pa k pc) ps W3 ∧ ps.length = k) := ⟨HO.out.1.keep hb3, HO.out.2.1⟩
          obtain ⟨m0, m1, m2, m3⟩ := HT.out W3 HO3.out.1.bel
          obtain ⟨r0, r1, r2, r3⟩ := HY.out W3 HO3.out.1.bel
          clear hW3 hb3 f0 f1 g0 g1 g2 g3 k0 k1 k2 k3
          go_wp2_with (first
            | (at_builtin; have HR : Hid ((W3.alloc (.cells #[.int .i64 y.1, .int .i64 y.2.v, .string y.2.fn, (.slice sa y.2.args.length sc)] 96)).ownsRow (w.alloc (bbox x (.slice xa x.2.args.length xc))).heap.size 96 4 (.slice pa k pc) (k) (flatB ps)) := (by { have := (HO3.out.1.keep (below_box W3 (.cells #[.int .i64 y.1, .int .i64 y.2.v, .string y.2.fn, (.slice sa y.2.args.length sc)] 96))).row; rwa [HO3.out.2] at this }); have HS : Hid ((w.alloc (bbox x (.slice xa x.2.args.length xc))).heap.size ≤ (W3.alloc (.cells #[.int .i64 y.1, .int .i64 y.2.v, .string y.2.fn, (.slice sa y.2.args.length sc)] 96)).heap.size) := Nat.le_trans HO3.out.1.bel.size (by simp); refine wpList_append_own_at _ rfl _ _ 70 rfl (w.alloc (bbox x (.slice xa x.2.args.length xc))).heap.size 96 i0 (.agg #[.int .i64 0, .int .i64 0, .string ⟨#[]⟩, .slice none 0 0]) 4 56 Try.underlying70 hi0 hz0 hz1 hz2 rfl (by decide) _ _ _ rfl HR.out ⟨W3.heap.size, 0, none⟩ 1 1 [.int .i64 y.1, .int .i64 y.2.v, .string y.2.fn, (.slice sa y.2.args.length sc)] rfl rfl (lit4 W3 _ _ _ _ 96) (by simp [Value.oneCell']) (by unfold maxLen; omega) (by omega) HS.out ?_; intro v4 w4 h2 h3 _ _; obtain ⟨pa4, pc4, rfl⟩ := rowB_form h2; have HO4 : Hid (OwnB (w.alloc (bbox x (.slice xa x.2.args.length xc))) (.slice pa4 (k + 1) pc4) (ps ++ [(y, (.slice sa y.2.args.length sc))]) w4 ∧ List.length (α := Bd × Value) (ps ++ [(y, (.slice sa y.2.args.length sc))]) = k + 1) := ⟨HO3.out.1.push (y, (.slice sa y.2.args.length sc)) _ w4 (by rw [HO3.out.2]; exact h2) _ h3, len_snoc HO3.out.2⟩; clear h2 h3 HR HS; obtain ⟨r0, r1, r2, r3⟩ := HY.out w4 HO4.out.1.bel))
          go_roundw
          case rel =>
            refine ⟨i + 1, k + 1, false, by go_num, rfl, by omega, ps ++ [(y, (.slice sa y.2.args.length sc))], HO4.out.2, ?_, HO4.out.1, by omega, ?_, ?_⟩
            · intro p hp
              rcases List.mem_append.1 hp with hp | hp
              · exact HO.out.2.2.1 p hp
              · simp at hp; subst hp; exact HO.out.2.2.2.1
            · intro _
              obtain ⟨h1, h2⟩ := HQ0.out (by first | rfl | trivial)
              refine ⟨by rw [HN.out.1, List.map_append, h1]; rfl, fun z hz => ?_⟩
              rw [HN.out.1] at hz
              rcases List.mem_append.1 hz with hz | hz
              · exact h2 z hz
              · simp at hz; subst hz; omega
            · intro h; cases h
          case measure => simp [intOf]; omega
      · go_wp2
        go_quiet (fail)
        obtain ⟨W3, hW3⟩ : ∃ W3, wr.drewN nq = W3 := ⟨_, rfl⟩
        have hb3 : Below wr.heap.size wr W3 := by rw [← hW3]; exact ⟨rfl, rfl, rfl, Nat.le_refl _, fun _ _ => rfl⟩
        rw [hW3]
        have HO3 : Hid (OwnB (w.alloc (bbox x (.slice xa x.2.args.length xc))) (.slice pa k pc) ps W3 ∧ ps.length = k) := ⟨HO.out.1.keep hb3, HO.out.2.1⟩
        obtain ⟨m0, m1, m2, m3⟩ := HT.out W3 HO3.out.1.bel
        obtain ⟨r0, r1, r2, r3⟩ := HY.out W3 HO3.out.1.bel
        clear hW3 hb3 f0 f1 g0 g1 g2 g3 k0 k1 k2 k3
        go_wp2_with (first
          | (at_builtin; have HR : Hid ((W3.alloc (.cells #[.int .i64 y.1, .int .i64 y.2.v, .string y.2.fn, (.slice sa y.2.args.length sc)] 96)).ownsRow (w.alloc (bbox x (.slice xa x.2.args.length xc))).heap.size 96 4 (.slice pa k pc) (k) (flatB ps)) := (by { have := (HO3.out.1.keep (below_box W3 (.cells #[.int .i64 y.1, .int .i64 y.2.v, .string y.2.fn, (.slice sa y.2.args.length sc)] 96))).row; rwa [HO3.out.2] at this }); have HS : Hid ((w.alloc (bbox x (.slice xa x.2.args.length xc))).heap.size ≤ (W3.alloc (.cells #[.int .i64 y.1, .int .i64 y.2.v, .string y.2.fn, (.slice sa y.2.args.length sc)] 96)).heap.size) := Nat.le_trans HO3.out.1.bel.size (by simp); refine wpList_append_own_at _ rfl _ _ 70 rfl (w.alloc (bbox x (.slice xa x.2.args.length xc))).heap.size 96 i0 (.agg #[.int .i64 0, .int .i64 0, .string ⟨#[]⟩, .slice none 0 0]) 4 56 Try.underlying70 hi0 hz0 hz1 hz2 rfl (by decide) _ _ _ rfl HR.out ⟨W3.heap.size, 0, none⟩ 1 1 [.int .i64 y.1, .int .i64 y.2.v, .string y.2.fn, (.slice sa y.2.args.length sc)] rfl rfl (lit4 W3 _ _ _ _ 96) (by simp [Value.oneCell']) (by unfold maxLen; omega) (by omega) HS.out ?_; intro v4 w4 h2 h3 _ _; obtain ⟨pa4, pc4, rfl⟩ := rowB_form h2; have HO4 : Hid (OwnB (w.alloc (bbox x (.slice xa x.2.args.length xc))) (.slice pa4 (k + 1) pc4) (ps ++ [(y, (.slice sa y.2.args.length sc))]) w4 ∧ List.length (α := Bd × Value) (ps ++ [(y, (.slice sa y.2.args.length sc))]) = k + 1) := ⟨HO3.out.1.push (y, (.slice sa y.2.args.length sc)) _ w4 (by rw [HO3.out.2]; exact h2) _ h3, len_snoc HO3.out.2⟩; clear h2 h3 HR HS; obtain ⟨r0, r1, r2, r3⟩ := HY.out w4 HO4.out.1.bel))
        go_roundw
        case rel =>
          refine ⟨i + 1, k + 1, true, by go_num, rfl, by omega, ps ++ [(y, (.slice sa y.2.args.length sc))], HO4.out.2, ?_, HO4.out.1, by omega, ?_, ?_⟩
          · intro p hp
            rcases List.mem_append.1 hp with hp | hp
            · exact HO.out.2.2.1 p hp
            · simp at hp; subst hp; exact HO.out.2.2.2.1
          · intro h; cases h
          · intro _
            have h1 := HQ1.out (by first | rfl | trivial)
            rw [← h1, HN.out.2, List.map_append]
            simp
        case measure => simp [intOf]; omega
    · have hil : i = l.length := by omega
      subst hil
      obtain ⟨k0, k1, k2, k3⟩ := HT.out wr hO.bel
      have HO : Hid (OwnB (w.alloc (bbox x (.slice xa x.2.args.length xc))) (.slice pa k pc) ps wr ∧ ps.length = k) := ⟨hO, hk⟩
      have HA : Hid (∀ p ∈ ps, ArgsAt (w.alloc (bbox x (.slice xa x.2.args.length xc))) p.2 p.1.2.args) := hargs
      have HQ0 : Hid (q = false → ps.map (·.1) = l.take l.length ∧ ∀ y ∈ l.take l.length, y.1 ≤ x.1) := hq0
      have HQ1 : Hid (q = true → ps.map (·.1) ++ l.drop l.length = withL l x) := hq1
      clear hO hk hargs hq0 hq1
      cases q
      · go_wp2_with (first
          | (at_builtin; have HR : Hid ((wr.alloc (.cells #[.int .i64 x.1, .int .i64 x.2.v, .string x.2.fn, (.slice xa x.2.args.length xc)] 96)).ownsRow (w.alloc (bbox x (.slice xa x.2.args.length xc))).heap.size 96 4 (.slice pa k pc) (k) (flatB ps)) := (by { have := (HO.out.1.keep (below_box wr (.cells #[.int .i64 x.1, .int .i64 x.2.v, .string x.2.fn, (.slice xa x.2.args.length xc)] 96))).row; rwa [HO.out.2] at this }); have HS : Hid ((w.alloc (bbox x (.slice xa x.2.args.length xc))).heap.size ≤ (wr.alloc (.cells #[.int .i64 x.1, .int .i64 x.2.v, .string x.2.fn, (.slice xa x.2.args.length xc)] 96)).heap.size) := Nat.le_trans HO.out.1.bel.size (by simp); refine wpList_append_own_at _ rfl _ _ 70 rfl (w.alloc (bbox x (.slice xa x.2.args.length xc))).heap.size 96 i0 (.agg #[.int .i64 0, .int .i64 0, .string ⟨#[]⟩, .slice none 0 0]) 4 56 Try.underlying70 hi0 hz0 hz1 hz2 rfl (by decide) _ _ _ rfl HR.out ⟨wr.heap.size, 0, none⟩ 1 1 [.int .i64 x.1, .int .i64 x.2.v, .string x.2.fn, (.slice xa x.2.args.length xc)] rfl rfl (lit4 wr _ _ _ _ 96) (by simp [Value.oneCell']) (by unfold maxLen; omega) (by omega) HS.out ?_; intro v4 w4 h2 h3 _ _; obtain ⟨pa4, pc4, rfl⟩ := rowB_form h2; have HO4 : Hid (OwnB (w.alloc (bbox x (.slice xa x.2.args.length xc))) (.slice pa4 (k + 1) pc4) (ps ++ [(x, (.slice xa x.2.args.length xc))]) w4 ∧ List.length (α := Bd × Value) (ps ++ [(x, (.slice xa x.2.args.length xc))]) = k + 1) := ⟨HO.out.1.push (x, (.slice xa x.2.args.length xc)) _ w4 (by rw [HO.out.2]; exact h2) _ h3, len_snoc HO.out.2⟩; clear h2 h3 HR HS))
        have HF : Hid (BindsAt w4 (.slice pa4 (k + 1) pc4) (withL l x) ∧ Below w.heap.size w w4) := by
          refine ⟨?_, HB0.out.trans (HO4.out.1.bel.mono HB0.out.size)⟩
          obtain ⟨h1, h2⟩ := HQ0.out (by first | rfl | trivial)
          have h3 := binds_of_row HO4.out.1.row (fun p hp => by
            rcases List.mem_append.1 hp with hp | hp
            · exact ArgsAt.keep HO4.out.1.bel (Nat.le_refl _) (HA.out p hp)
            · simp at hp; subst hp; exact ArgsAt.keep HO4.out.1.bel (Nat.le_refl _) (ArgsAt.keep HB0.out (Nat.le_refl _) HL.out.2))
          rw [List.map_append, h1] at h3
          rw [List.take_length] at h3 h2
          rw [withL_end l x h2]
          exact h3
        go_ret
        exact ⟨_, rfl, HF.out.1, HF.out.2⟩
      · have HF : Hid (BindsAt wr (.slice pa k pc) (withL l x) ∧ Below w.heap.size w wr) := by
          refine ⟨?_, HB0.out.trans (HO.out.1.bel.mono HB0.out.size)⟩
          have h1 := HQ1.out (by first | rfl | trivial)
          have h3 := binds_of_row HO.out.1.row (fun p hp => ArgsAt.keep HO.out.1.bel (Nat.le_refl _) (HA.out p hp))
          rw [List.drop_length, List.append_nil] at h1
          rw [h1] at h3
          exact h3
        go_wp2
        go_ret
        exact ⟨_, rfl, HF.out.1, HF.out.2⟩

end Go.Proofs.Ytgnjgpplelakkaa

/-
  The document's Rename.
-/
namespace Go.Proofs.Ytgnjgpplelakkaa
open Go.RowKit Go.Maps

/-- The binds of the first k numbers. -/
def renB (M : List Int) : Nat → List Bd
  | 0 => []
  | k + 1 => match M[k]? with
    | some n => if n = (k : Int) then renB M k else withL (renB M k) (n, var k)
    | none => renB M k

theorem renB_mem (M : List Int) : ∀ k x, x ∈ renB M k ↔ ∃ i, i < k ∧ ∃ n, M[i]? = some n ∧ n ≠ (i : Int) ∧ x = (n, var i)
  | 0, x => by simp [renB]
  | k + 1, x => by
    have ih := renB_mem M k x
    unfold renB
    cases hk : M[k]? with
    | none =>
      simp only
      rw [ih]
      constructor
      · rintro ⟨i, hi, h⟩
        exact ⟨i, by omega, h⟩
      · rintro ⟨i, hi, n, hn, h⟩
        by_cases e : i = k
        · subst e; rw [hk] at hn; cases hn
        · exact ⟨i, by omega, n, hn, h⟩
    | some m =>
      simp only
      by_cases hm : m = (k : Int)
      · rw [if_pos hm, ih]
        constructor
        · rintro ⟨i, hi, h⟩
          exact ⟨i, by omega, h⟩
        · rintro ⟨i, hi, n, hn, hne, h⟩
          by_cases e : i = k
          · subst e; rw [hk] at hn; cases hn; exact absurd hm hne
          · exact ⟨i, by omega, n, hn, hne, h⟩
      · rw [if_neg hm, (withL_perm (renB M k) (m, var k)).mem_iff, List.mem_cons, ih]
        constructor
        · rintro (rfl | ⟨i, hi, h⟩)
          · exact ⟨k, by omega, m, hk, hm, rfl⟩
          · exact ⟨i, by omega, h⟩
        · rintro ⟨i, hi, n, hn, hne, h⟩
          by_cases e : i = k
          · subst e; rw [hk] at hn; cases hn; exact .inl h
          · exact .inr ⟨i, by omega, n, hn, hne, h⟩

theorem renB_len (M : List Int) : ∀ k, (renB M k).length ≤ k
  | 0 => by simp [renB]
  | k + 1 => by
    have ih := renB_len M k
    unfold renB
    split
    · split
      · omega
      · rw [(withL_perm _ _).length_eq, List.length_cons]; omega
    · omega

theorem img_ren (M : List Int) (hn : M.Nodup) (n : Int) (j : Nat) (h : idx M n = some j) : img (renB M M.length) n = var (ix M n) := by
  have hj := idx_some h
  have hjl : j < M.length := (List.getElem?_eq_some_iff.1 hj).1
  have hix : ix M n = j := by unfold ix; rw [h]; rfl
  rw [hix]
  have uniq : ∀ i, M[i]? = some n → i = j := fun i hi => by
    have hil : i < M.length := (List.getElem?_eq_some_iff.1 hi).1
    rw [List.getElem?_eq_getElem hil] at hi
    rw [List.getElem?_eq_getElem hjl] at hj
    exact (List.getElem_inj hn).1 ((Option.some.inj hi).trans (Option.some.inj hj).symm)
  unfold img
  cases hf : (renB M M.length).find? (fun b => decide (b.1 = n)) with
  | some b =>
    have h1 : b.1 = n := by simpa using List.find?_some hf
    obtain ⟨i, hi, m, hm, hne, rfl⟩ := (renB_mem M M.length b).1 (List.mem_of_find?_eq_some hf)
    have h1' : m = n := h1
    subst h1'
    rw [uniq i hm]
    rfl
  | none =>
    have hno := List.find?_eq_none.1 hf
    by_cases e : n = (j : Int)
    · rw [← e]; rfl
    · have := hno (n, var j) ((renB_mem M M.length _).2 ⟨j, hjl, n, hj, e, rfl⟩)
      simp at this

theorem nm_nodup {met : List Int} (n : Int) (h : met.Nodup) : (nm met n).1.Nodup := by
  unfold nm
  split
  · exact h
  · split
    · exact h
    · rename_i hi
      exact List.nodup_append.2 ⟨h, by simp, fun a ha b hb => by simp at hb; subst hb; exact fun e => idx_none hi (e ▸ ha)⟩

theorem ren_nodup (t : T) : ∀ met, met.Nodup → (ren t met).2.Nodup := by
  induction t using T.ind with
  | _ t ih =>
    intro met h
    have hl : ∀ (l : List T), (∀ a ∈ l, a ∈ t.args) → ∀ met, met.Nodup → (ren.rens l met).2.Nodup := by
      intro l
      induction l with
      | nil => intro _ met h; exact h
      | cons a r ihl => intro hm met h; exact ihl (fun b hb => hm b (by simp [hb])) _ (ih a (hm a (by simp)) met h)
    rw [ren_eq]
    refine hl t.args (fun _ h => h) _ ?_
    unfold nmT
    split
    · exact nm_nodup _ h
    · exact h

theorem rens_nodup (l : List T) : ∀ met, met.Nodup → (ren.rens l met).2.Nodup := by
  induction l with
  | nil => intro met h; exact h
  | cons a r ih => intro met h; exact ih _ (ren_nodup a met h)

theorem sumT_take (ts : List T) (k : Nat) (hk : k < ts.length) : ((ts.take k).map T.size).sum + ts[k].size ≤ sumT ts := by
  have h4 := upto_succ T.size ts k hk
  have h5 : upto T.size ts (k + 1) ≤ (ts.map T.size).sum := by
    unfold upto
    rw [← List.take_append_drop (k + 1) ts, List.map_append, List.sum_append]
    have := (sum_sizes (ts.drop (k + 1))).1
    simp only [List.take_append_drop]
    omega
  unfold upto at h4 h5
  unfold sumT
  omega

set_option maxRecDepth 100000 in
set_option maxHeartbeats 4000000 in
theorem rename_any (ts : List T) (sl : Value) (w : World) (ha : ArgsAt w sl ts) (hsh : ∀ t ∈ ts, t.shape = true) (hsz : sumT ts ≤ 4000) :
    Calls Try.prog 60 #[sl] w fun e w' => ∃ v', e = .returned v' ∧ BindsAt w' v' (renB (ren.rens ts []).2 (ren.rens ts []).2.length) ∧ Below w.heap.size w w' := by
  obtain ⟨a, c, rfl, hc, hcm⟩ := ha.slice
  have hlen : ts.length ≤ 4000 := by
    have h1 := (sum_sizes ts).1
    unfold sumT at hsz
    omega
  have HA : Hid (ArgsAt w (.slice a ts.length c) ts) := ha
  have HSH : Hid (∀ t ∈ ts, t.shape = true) := hsh
  have HSZ : Hid (∀ k (hk : k < ts.length), (((ren.rens (ts.take k) []).2.length : Int)) + ts[k].size ≤ 4000) := fun k hk => by
    have h1 := rens_met (ts.take k) []
    have h2 := sumT_take ts k hk
    simp only [List.length_nil] at h1
    omega
  have hM : ((ren.rens ts []).2.length : Int) ≤ 4000 := by
    have h1 := rens_met ts []
    unfold sumT at hsz
    simp only [List.length_nil] at h1
    omega
  clear ha hsh hsz
  go_enter Try.func60, Try.ntmps60
  go_wp2
  go_loopw [3, 4] (fun vo vi wr => ∃ i : Nat, vi = .int .i64 i ∧ i ≤ ts.length ∧ MetR w vo (ren.rens (ts.take i) []).2 wr) (fun _ vi _ => ts.length - (intOf vi).toNat)
  case atStart => exact ⟨0, rfl, Nat.zero_le _, World.ownsRow_nil _ _ _ _, Below.refl _ _⟩
  case round =>
    obtain ⟨i, rfl, hi, hI⟩ := hrel
    obtain ⟨xa, xc, rfl⟩ := row_form hI.row
    by_cases hlt : i < ts.length
    · obtain ⟨bb, o, s, e1, hbl, c0, c1, c2, hs⟩ := HA.out.nth hlt
      cases e1
      have c0' := kc hI.bel hbl c0
      have c1' := kc hI.bel hbl c1
      have c2' := kc hI.bel hbl c2
      have hcall := met_any w ts[i] _ _ s wr hI hs (HSH.out _ (List.getElem_mem hlt)) (HSZ.out i hlt)
      have HN : Hid ((ren.rens (ts.take (i + 1)) []).2 = (ren ts[i] (ren.rens (ts.take i) []).2).2) := by show _ = _; rw [List.take_succ_eq_append_getElem hlt, rens_snoc]
      obtain ⟨sa, sc, rfl, _, _⟩ := hs.slice
      have k0' : (i : Int) < (ts.length : Int) := by omega
      have k1' : (0 : Int) ≤ (i : Int) := by omega
      clear hI hs
      go_wp2_with fail
      refine hcall.mono ?_
      rintro e W1 ⟨v', rfl, hm1, _, _⟩
      obtain ⟨ya, yc, rfl⟩ := row_form hm1.row
      have HEE : Hid (MetR w (.slice ya (ren ts[i] (ren.rens (ts.take i) []).2).2.length yc) (ren ts[i] (ren.rens (ts.take i) []).2).2 W1) := hm1
      clear hm1
      go_wp2
      go_roundw
      case rel => exact ⟨i + 1, by go_num, by omega, by rw [HN.out]; exact HEE.out⟩
      case measure => simp [intOf]; omega
    · have hM0 : MetR w (.slice xa (ren.rens (ts.take i) []).2.length xc) (ren.rens ts []).2 wr := by
        have := hI
        rw [List.take_of_length_le (by omega)] at this ⊢
        exact this
      rw [List.take_of_length_le (by omega)] at hM0 ⊢
      clear hI
      obtain ⟨M, hMM⟩ : ∃ M, (ren.rens ts []).2 = M := ⟨_, rfl⟩
      simp only [hMM] at hM0 hM ⊢
      have HMM : Hid ((ren.rens ts []).2 = M) := hMM
      clear hMM
      obtain ⟨wq, hwq⟩ : ∃ wq, wr = wq := ⟨_, rfl⟩
      subst hwq
      have HM0 : Hid (MetR w (.slice xa M.length xc) M wr) := hM0
      clear hM0
      go_wp2
      go_loopw [5, 6] (fun vo vi wx => ∃ k : Nat, vi = .int .i64 k ∧ k ≤ M.length ∧ BindsAt wx vo (renB M k) ∧ Below wr.heap.size wr wx) (fun _ vi _ => M.length - (intOf vi).toNat)
      case atStart => exact ⟨0, rfl, Nat.zero_le _, ⟨none, 0, rfl, Nat.le_refl _, by decide, fun h => absurd h (by simp [renB])⟩, Below.refl _ _⟩
      case round =>
        obtain ⟨k, rfl, hk, hB, hbx⟩ := hrel
        obtain ⟨oa, oc, rfl⟩ := hB.slice
        have hmr := HM0.out.keep hbx
        by_cases hlk : k < M.length
        · obtain ⟨g, gc, e, hgl, hgc⟩ := hmr.nth hlk
          cases e
          have HN : Hid (renB M (k + 1) = if M[k] = (k : Int) then renB M k else withL (renB M k) (M[k], var k)) := by
            show _ = _
            conv => lhs; unfold renB
            rw [List.getElem?_eq_getElem hlk]
          have hw89 := rwith_any (renB M k) (M[k], var k) (.slice oa (renB M k).length oc) (.slice none 0 0) _ hB (nilArgs _) (by have := renB_len M k; omega)
          obtain ⟨n, hn⟩ : ∃ n, M[k] = n := ⟨_, rfl⟩
          simp only [hn] at hgc HN hw89
          have HB : Hid (BindsAt _ (.slice oa (renB M k).length oc) (renB M k) ∧ Below _ _ _) := ⟨hB, hbx⟩
          have k0' : (k : Int) < (M.length : Int) := by omega
          have k1' : (0 : Int) ≤ (k : Int) := by omega
          clear hB hbx hmr hn
          by_cases he : n = (k : Int)
          · have heb : (n != (k : Int)) = false := by rw [bne_eq_false_iff_eq]; exact he
            have HNN : Hid (renB M (k + 1) = renB M k) := by show _ = _; rw [HN.out, if_pos he]
            clear he HN hw89
            go_wp2
            go_roundw
            case rel => exact ⟨k + 1, by go_num, by omega, by rw [HNN.out]; exact HB.out.1, HB.out.2⟩
            case measure => simp [intOf]; omega
          · have heb : (n != (k : Int)) = true := by rw [bne_iff_ne]; exact he
            have HNN : Hid (renB M (k + 1) = withL (renB M k) (n, var k)) := by show _ = _; rw [HN.out, if_neg he]
            clear he HN
            go_wp2_with fail
            refine hw89.mono ?_
            rintro e W1 ⟨v', rfl, hB1, hb1⟩
            obtain ⟨ya, yc, rfl⟩ := hB1.slice
            have HEE : Hid (BindsAt W1 (.slice ya (withL (renB M k) (n, var k)).length yc) (renB M (k + 1)) ∧ Below _ _ W1) := ⟨by rw [HNN.out]; exact hB1, HB.out.2.trans (hb1.mono HB.out.2.size)⟩
            clear hB1 hb1
            go_wp2
            go_roundw
            case rel => exact ⟨k + 1, by go_num, by omega, HEE.out.1, HEE.out.2⟩
            case measure => simp [intOf]; omega
        · have hke : k = M.length := by omega
          subst hke
          have HF : Hid (BindsAt _ (.slice oa (renB M M.length).length oc) (renB M M.length) ∧ Below w.heap.size w _) := ⟨hB, HM0.out.bel.trans (hbx.mono HM0.out.bel.size)⟩
          clear hB hbx hmr
          go_wp2
          go_ret
          exact ⟨_, rfl, by rw [HMM.out]; exact HF.out.1, HF.out.2⟩

end Go.Proofs.Ytgnjgpplelakkaa

/-
  The document's Terms: all sides of a clause.
-/
namespace Go.Proofs.Ytgnjgpplelakkaa
open Go.RowKit Go.Maps

/-- What stands in the loop of Terms. -/
structure TmI (w : World) (l : List Lt) (i : Nat) (v : Value) (ps : List (T × Value)) (W : World) : Prop where
  args : ps.map (·.1) = sidesOf (l.take i)
  ok : ∀ p ∈ ps, ArgsAt w p.2 p.1.args
  row : W.ownsRow w.heap.size 26 3 v ps.length (flatT ps)
  bel : Below w.heap.size w W

theorem sides_len (l : List Lt) : (sidesOf l).length = 2 * l.length := by
  induction l with
  | nil => rfl
  | cons x r ih =>
    have e : sidesOf (x :: r) = x.l :: x.r :: sidesOf r := rfl
    rw [e, List.length_cons, List.length_cons, List.length_cons, ih]
    omega

theorem TmI.terms {w : World} {l : List Lt} {v : Value} {ps : List (T × Value)} {W : World} (h : TmI w l l.length v ps W) : ArgsAt W v (sidesOf l) := by
  have h1 := h.args
  rw [List.take_length] at h1
  have hl : (sidesOf l).length = ps.length := by rw [← h1]; simp
  exact (argsP_of_row (P := fun _ => True) h.row hl h1 (fun _ _ => trivial) (fun p hp => (ArgsAt.belowP (ArgsAt.keep h.bel (Nat.le_refl _) (h.ok p hp))).keep (Nat.le_refl _) (fun _ _ _ => ⟨trivial, rfl⟩))).args

theorem lit6 (w : World) (v0 v1 v2 v3 v4 v5 : Value) (ty : TypeId) : ∀ j u, [v0, v1, v2, v3, v4, v5][j]? = some u → (w.alloc (.cells #[v0, v1, v2, v3, v4, v5] ty)).cell? ((⟨w.heap.size, 0, none⟩ : Addr).add j) = some u := by
  intro j u hj
  have ea : (⟨w.heap.size, 0, none⟩ : Addr).add j = ⟨w.heap.size, j, none⟩ := by unfold Addr.add; split <;> simp_all
  rw [ea, World.cell?_alloc_new]
  simpa using hj

set_option maxRecDepth 100000 in
set_option maxHeartbeats 8000000 in
theorem rterms_any (l : List Lt) (v : Value) (w : World) (hl : ClauseAt w v l) (hlen : l.length ≤ 1048576) :
    Calls Try.prog 45 #[v] w fun e w' => ∃ a c, e = .returned (.slice a (sidesOf l).length c) ∧ ArgsAt w' (.slice a (sidesOf l).length c) (sidesOf l) ∧ Below w.heap.size w w' := by
  obtain ⟨a, c, rfl⟩ := hl.slice
  have HL : Hid (ClauseAt w (.slice a l.length c) l) := hl
  clear hl
  obtain ⟨i0, hi0, hz0, hz1, hz2⟩ := info_parts Try.info26
  go_enter Try.func45, Try.ntmps45
  go_wp2
  go_loopw [3, 4] (fun vo vi wr => ∃ i : Nat, vi = .int .i64 i ∧ i ≤ l.length ∧ ∃ ps, TmI w l i vo ps wr) (fun _ vi _ => l.length - (intOf vi).toNat)
  case atStart => exact ⟨0, rfl, Nat.zero_le _, [], rfl, fun p hp => absurd hp (by simp), World.ownsRow_nil _ _ _ _, Below.refl _ _⟩
  case round =>
    obtain ⟨i, rfl, hi, ps, hI⟩ := hrel
    obtain ⟨pa, pc, hvo⟩ := row_slice hI.row
    subst hvo
    by_cases hlt : i < l.length
    · obtain ⟨bb, o, sl, sr, e1, hX0⟩ := HL.out.nth hlt
      cases e1
      have hX := (hX0.keep hI.bel).keep (Below.refl _ wr).drew
      have hss := sides_succ l i hlt
      have hpl : ps.length ≤ 2 * i := by
        have h1 := congrArg List.length hI.args
        rw [List.length_map, sides_len, List.length_take] at h1
        omega
      obtain ⟨x, hx⟩ : ∃ x, l[i] = x := ⟨_, rfl⟩
      simp only [hx] at hX hX0 hss
      obtain ⟨c0, c1, c2, c3, c4, c5, c6⟩ : wr.drew.cell? ⟨bb, o + i * 7, none⟩ = some (.bool x.neg) ∧ wr.drew.cell? ⟨bb, o + i * 7 + 1, none⟩ = some (.int .i64 x.l.v) ∧ wr.drew.cell? ⟨bb, o + i * 7 + 2, none⟩ = some (.string x.l.fn) ∧ wr.drew.cell? ⟨bb, o + i * 7 + 3, none⟩ = some sl ∧ wr.drew.cell? ⟨bb, o + i * 7 + 4, none⟩ = some (.int .i64 x.r.v) ∧ wr.drew.cell? ⟨bb, o + i * 7 + 5, none⟩ = some (.string x.r.fn) ∧ wr.drew.cell? ⟨bb, o + i * 7 + 6, none⟩ = some sr := ⟨hX.c0, hX.c1, hX.c2, hX.c3, hX.c4, hX.c5, hX.c6⟩
      obtain ⟨la, lc, rfl, _⟩ := hX.al.slice
      obtain ⟨ra, rc, rfl, _⟩ := hX.ar.slice
      have i0' : (i : Int) < (l.length : Int) := by omega
      have i1' : (0 : Int) ≤ (i : Int) := by omega
      have hbd : Below wr.heap.size wr wr.drew := (Below.refl _ wr).drew
      have hba := below_box wr.drew (.cells #[.int .i64 x.l.v, .string x.l.fn, .slice la x.l.args.length lc, .int .i64 x.r.v, .string x.r.fn, .slice ra x.r.args.length rc] 26)
      have hb2 : Below wr.heap.size wr (wr.drew.alloc (.cells #[.int .i64 x.l.v, .string x.l.fn, .slice la x.l.args.length lc, .int .i64 x.r.v, .string x.r.fn, .slice ra x.r.args.length rc] 26)) := hbd.trans hba
      have HR : Hid ((wr.drew.alloc (.cells #[.int .i64 x.l.v, .string x.l.fn, .slice la x.l.args.length lc, .int .i64 x.r.v, .string x.r.fn, .slice ra x.r.args.length rc] 26)).ownsRow w.heap.size 26 3 (.slice pa ps.length pc) ps.length (flatT ps)) := row_keep hI.row (fun g hg => hb2.block g (hI.row.lt g hg).2)
      have HB : Hid (w.heap.size ≤ (wr.drew.alloc (.cells #[.int .i64 x.l.v, .string x.l.fn, .slice la x.l.args.length lc, .int .i64 x.r.v, .string x.r.fn, .slice ra x.r.args.length rc] 26)).heap.size) := Nat.le_trans hI.bel.size hb2.size
      have HI : Hid (TmI w l i (.slice pa ps.length pc) ps wr ∧ ArgsAt w (.slice la x.l.args.length lc) x.l.args ∧ ArgsAt w (.slice ra x.r.args.length rc) x.r.args) := ⟨hI, hX0.al, hX0.ar⟩
      have HE : Hid (∀ v' w6, w6.ownsRow w.heap.size 26 3 v' (ps.length + 2) (flatT ps ++ [.int .i64 x.l.v, .string x.l.fn, .slice la x.l.args.length lc, .int .i64 x.r.v, .string x.r.fn, .slice ra x.r.args.length rc]) → (wr.drew.alloc (.cells #[.int .i64 x.l.v, .string x.l.fn, .slice la x.l.args.length lc, .int .i64 x.r.v, .string x.r.fn, .slice ra x.r.args.length rc] 26)).grownBy w6 (Value.slice pa ps.length pc).ownBlock → TmI w l (i + 1) v' (ps ++ [(x.l, .slice la x.l.args.length lc), (x.r, .slice ra x.r.args.length rc)]) w6) := fun v' w6 h2 h3 => by
        refine ⟨?_, fun p hp => ?_, ?_, ?_⟩
        · rw [hss, List.map_append, HI.out.1.args]
          simp
        · rcases List.mem_append.1 hp with hp | hp
          · exact HI.out.1.ok p hp
          · simp at hp
            rcases hp with rfl | rfl
            · exact HI.out.2.1
            · exact HI.out.2.2
        · have e : flatT (ps ++ [(x.l, .slice la x.l.args.length lc), (x.r, .slice ra x.r.args.length rc)]) = flatT ps ++ [.int .i64 x.l.v, .string x.l.fn, .slice la x.l.args.length lc, .int .i64 x.r.v, .string x.r.fn, .slice ra x.r.args.length rc] := by simp [flatT]
          rw [e, List.length_append]
          exact h2
        · have hb4 := HI.out.1.bel.trans (hb2.mono HI.out.1.bel.size)
          exact hb4.trans ⟨h3.os, h3.tape, h3.output, h3.size, fun j hj => h3.block j (by have := hb4.size; omega) (fun e => by have := (HI.out.1.row.lt j e.symm).1; omega)⟩
      clear hX hX0 hI hx hss hba hbd hb2
      go_wp2
      go_region_law (first
        | (refine step_append_own _ rfl (.tmp 11) (.tmp 22) 24 rfl w.heap.size 26 i0 _ 3 48 Try.underlying24 hi0 hz0 hz1 hz2 rfl (by decide) (.slice pa ps.length pc) ps.length (flatT ps) rfl HR.out ⟨wr.heap.size, 0, none⟩ 2 2 [.int .i64 x.l.v, .string x.l.fn, .slice la x.l.args.length lc, .int .i64 x.r.v, .string x.r.fn, .slice ra x.r.args.length rc] rfl rfl (lit6 wr.drew _ _ _ _ _ _ 26) (by { intro y hy; simp only [List.mem_cons, List.not_mem_nil, or_false] at hy; rcases hy with rfl | rfl | rfl | rfl | rfl | rfl <;> rfl }) (by unfold maxLen; omega) (by omega) HB.out ?_; intro v' w6 hrow6 hg6 hb6; obtain ⟨a6, c6, rfl⟩ := row_slice hrow6))
      all_goals (
        have HF := HE.out _ w6 hrow6 hg6
        have HFF : Hid (TmI w l (i + 1) (.slice a6 (ps.length + 2) c6) (ps ++ [(x.l, .slice la x.l.args.length lc), (x.r, .slice ra x.r.args.length rc)]) w6) := HF
        clear HF hrow6 hg6 hb6
        go_wp2
        go_roundw
        case rel => exact ⟨i + 1, by go_num, by omega, _, HFF.out⟩
        case measure => simp [intOf]; omega)
    · have hil : i = l.length := by omega
      subst hil
      have hpl : ps.length = (sidesOf l).length := by
        have h1 := congrArg List.length hI.args
        rw [List.length_map, List.take_length] at h1
        exact h1
      have HF : Hid (ArgsAt wr (.slice pa (sidesOf l).length pc) (sidesOf l) ∧ Below w.heap.size w wr) := ⟨by have := hI.terms; rw [hpl] at this; exact this, hI.bel⟩
      rw [hpl]
      clear hI hpl
      go_wp2
      go_ret
      exact ⟨_, _, rfl, HF.out⟩

end Go.Proofs.Ytgnjgpplelakkaa
