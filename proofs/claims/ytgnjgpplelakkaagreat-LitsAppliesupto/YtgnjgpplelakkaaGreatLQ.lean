/-
  lits.renamer's closure rename, at every term.
-/
import Derived.Test.YtgnjgpplelakkaaGreatLP
namespace Go.Proofs.YtgnjgpplelakkaaGreat
open Go.RowKit Go.Maps

/-- What stands ahead of Grow. -/
structure PreI (C b N R : Nat) (w : World) (t : T) (sl : Value) (v0 : Int) (met1 : List Int) (W : World) : Prop where
  st : RenSt C b N R met1 W
  out : W.heap[w.heap.size + 1 + 1]? = some (.cells #[.int .i64 v0, .string t.fn, .slice none 0 0] 28 (0, 0))
  tb : W.heap[w.heap.size]? = some (.cells #[.int .i64 t.v, .string t.fn, sl] 28 (0, 0))
  rb : W.heap[w.heap.size + 1]? = some (.cells #[.int .i64 0, .string ⟨#[]⟩, .slice none 0 0] 28 (0, 0))
  onl : Only [b] w W
  siz : w.heap.size + 3 ≤ W.heap.size

theorem pre_start {C b N R : Nat} {met : List Int} {w : World} (t : T) (sl : Value) (h : RenSt C b N R met w) : PreI C b N R w t sl t.v met (((w.alloc (tbox t sl)).alloc (.cells #[.int .i64 0, .string ⟨#[]⟩, .slice none 0 0] 28)).alloc (.cells #[.int .i64 t.v, .string t.fn, .slice none 0 0] 28)) := by
  have h1 := (MapKept.heap_alloc w (.cells #[.int .i64 t.v, .string t.fn, sl] 28)).1
  have h2 := (MapKept.heap_alloc (w.alloc (.cells #[.int .i64 t.v, .string t.fn, sl] 28)) (.cells #[.int .i64 0, .string ⟨#[]⟩, .slice none 0 0] 28)).1
  have h3 := (MapKept.heap_alloc ((w.alloc (.cells #[.int .i64 t.v, .string t.fn, sl] 28)).alloc (.cells #[.int .i64 0, .string ⟨#[]⟩, .slice none 0 0] 28)) (.cells #[.int .i64 t.v, .string t.fn, .slice none 0 0] 28)).1
  rw [World.size_alloc] at h2
  rw [World.size_alloc, World.size_alloc] at h3
  have hb : Below w.heap.size w (((w.alloc (tbox t sl)).alloc (.cells #[.int .i64 0, .string ⟨#[]⟩, .slice none 0 0] 28)).alloc (.cells #[.int .i64 t.v, .string t.fn, .slice none 0 0] 28)) := (below_box2 w _ _).trans ((below_box _ _).mono (by simp; omega))
  refine ⟨h.keep hb, h3, ?_, ?_, Only.of_below hb, by simp⟩
  · rw [Below.heap_alloc _ _ _ (by simp; omega), Below.heap_alloc _ _ _ (by simp)]
    exact h1
  · rw [Below.heap_alloc _ _ _ (by simp)]
    exact h2

theorem pre_name {C b N R : Nat} {met met1 : List Int} {w : World} {t : T} {sl : Value} {v0 v1 : Int} {W W4 : World} (h : PreI C b N R w t sl v0 met W) (hl : C < w.heap.size ∧ b < w.heap.size ∧ N < w.heap.size ∧ R < w.heap.size) (hm : MapIs W4 3 b (mm met1) met1.length) (hO : Only [b] W W4) : PreI C b N R w t sl v1 met1 (W4.setCell ⟨w.heap.size + 1 + 1, 0, none⟩ (.int .i64 v1)) := by
  have hsz := h.siz
  have hOs := hO.size
  have kp : ∀ k, k ≠ w.heap.size + 1 + 1 → (W4.setCell ⟨w.heap.size + 1 + 1, 0, none⟩ (.int .i64 v1)).heap[k]? = W4.heap[k]? := fun k hk => Below.heap_setCell _ _ _ k hk
  have h4 := h.st.next hO met1 hm
  have hout : W4.heap[w.heap.size + 1 + 1]? = some (.cells #[.int .i64 v0, .string t.fn, .slice none 0 0] 28 (0, 0)) := (hO.block _ (by omega) (by simp; omega)).trans h.out
  refine ⟨h4.same (kp _ (by omega)) (kp _ (by omega)) (kp _ (by omega)) (kp _ (by omega)), ?_, ?_, ?_, ?_, by simp; omega⟩
  · have := heap_setCell_same W4 (w.heap.size + 1 + 1) 0 _ 28 (.int .i64 v1) hout
    simpa using this
  · rw [kp _ (by omega), hO.block _ (by omega) (by simp; omega)]; exact h.tb
  · rw [kp _ (by omega), hO.block _ (by omega) (by simp; omega)]; exact h.rb
  · exact ⟨hO.os.trans h.onl.os, hO.tape.trans h.onl.tape, hO.output.trans h.onl.output, by simp; have := h.onl.size; omega, fun k hk hkb => (kp k (by omega)).trans ((hO.block k (by omega) hkb).trans (h.onl.block k hk hkb))⟩

theorem pre_grow {C b N R : Nat} {met1 : List Int} {w : World} {t : T} {sl : Value} {v0 : Int} {W W6 : World} (h : PreI C b N R w t sl v0 met1 W) (hl : C < w.heap.size ∧ b < w.heap.size ∧ N < w.heap.size ∧ R < w.heap.size) (hB : Below W.heap.size W W6) (v : Value) (hrow : W6.ownsRow (w.heap.size + 3) 28 3 v 0 []) (hv : ∀ g, v.ownBlock = some g → W.heap.size ≤ g) : RenI C b N R w t sl v0 met1 0 v [] (W6.setCell ⟨w.heap.size + 1 + 1, 2, none⟩ v) := by
  have hsz := h.siz
  have hBs := hB.size
  have kp : ∀ k, k ≠ w.heap.size + 1 + 1 → (W6.setCell ⟨w.heap.size + 1 + 1, 2, none⟩ v).heap[k]? = W6.heap[k]? := fun k hk => Below.heap_setCell _ _ _ k hk
  have h4 := h.st.keep hB
  have hout : W6.heap[w.heap.size + 1 + 1]? = some (.cells #[.int .i64 v0, .string t.fn, .slice none 0 0] 28 (0, 0)) := (hB.block _ (by omega)).trans h.out
  refine ⟨rfl, h4.same (kp _ (by omega)) (kp _ (by omega)) (kp _ (by omega)) (kp _ (by omega)), fun p hp => absurd hp (by simp), row_keep hrow (fun g hg => kp g (by have := hv g hg; omega)), ?_, ?_, ?_, ?_, by simp; omega⟩
  · have := heap_setCell_same W6 (w.heap.size + 1 + 1) 2 _ 28 v hout
    simpa using this
  · rw [kp _ (by omega), hB.block _ (by omega)]; exact h.tb
  · rw [kp _ (by omega), hB.block _ (by omega)]; exact h.rb
  · exact ⟨hB.os.trans h.onl.os, hB.tape.trans h.onl.tape, hB.output.trans h.onl.output, by simp; have := h.onl.size; omega, fun k hk hkb => (kp k (by omega)).trans ((hB.block k (by omega)).trans (h.onl.block k hk hkb))⟩

set_option maxRecDepth 100000 in
set_option maxHeartbeats 4000000 in
theorem ren_fn (C b N R : Nat) (W0 : World) (t : T) (ih : ∀ a ∈ t.args, RenAt C b N R W0 a) (met : List Int) (a : Option Addr) (c : Nat) (w : World) (hst : RenSt C b N R met w) (hw : Below W0.heap.size W0 w) (hb0 : W0.heap.size ≤ b) (ha : ArgsAt W0 (.slice a t.args.length c) t.args) (hsz : t.size ≤ 1048576) (hmet : (met.length : Int) + t.size ≤ 1073741824) (h0 : t.fn.size ≠ 0) :
    Calls Tryz.prog 58 #[tval t (.slice a t.args.length c), .pointer (some ⟨N, 0, none⟩), .pointer (some ⟨R, 0, none⟩)] w fun e W' => ∃ sl', e = .returned (tval (ren t met).1 sl') ∧ ArgsP (fun x => w.heap.size ≤ x) W' sl' (ren t met).1.args ∧ RenSt C b N R (ren t met).2 W' ∧ Only [b] w W' := by
  have hlt4 := hst.lt
  have hre : ren t met = (.mk (t.v) t.fn (ren.rens t.args (met)).1, (ren.rens t.args (met)).2) := by
    rw [ren_eq]
    unfold nmT
    rw [if_neg h0]
  rw [hre]
  have hdd : t.fn.toList.isEmpty = false := by rw [ba_isEmpty]; exact decide_eq_false h0
  have hlen : t.args.length ≤ 1048576 ∧ (∀ x ∈ t.args, x.size ≤ 1048576) ∧ ∀ k (hk : k < t.args.length), (((ren.rens (t.args.take k) (met)).2.length : Int)) + t.args[k].size ≤ 1073741824 := by
    have h1 := sum_sizes t.args
    have h2 := t.size_eq
    refine ⟨by omega, fun x hx => by have := h1.2 x hx; omega, fun k hk => ?_⟩
    have h3 := rens_met (t.args.take k) (met)
    have h4 := upto_succ T.size t.args k hk
    have h5 : upto T.size t.args (k + 1) ≤ (t.args.map T.size).sum := by
      unfold upto
      rw [← List.take_append_drop (k + 1) t.args, List.map_append, List.sum_append]
      have := (sum_sizes (t.args.drop (k + 1))).1
      simp only [List.take_append_drop]
      omega
    unfold upto at h4 h5
    skip
    omega
  obtain ⟨hlen, hall, hmk⟩ := hlen
  have HAll : Hid (∀ x ∈ t.args, x.size ≤ 1048576) := hall
  have HMK : Hid (∀ k (hk : k < t.args.length), (((ren.rens (t.args.take k) (met)).2.length : Int)) + t.args[k].size ≤ 1073741824) := hmk
  have hP0 := pre_start (sl := .slice a t.args.length c) (t := t) hst
  have HAA : Hid (ArgsAt W0 (.slice a t.args.length c) t.args) := ha
  have HIH : Hid (∀ a ∈ t.args, RenAt C b N R W0 a) := ih
  have HP0 : Hid (PreI C b N R w t (.slice a t.args.length c) t.v met (((w.alloc (tbox t (.slice a t.args.length c))).alloc (.cells #[.int .i64 0, .string ⟨#[]⟩, .slice none 0 0] 28)).alloc (.cells #[.int .i64 t.v, .string t.fn, .slice none 0 0] 28))) := hP0
  obtain ⟨⟨b0, b1, b2⟩, _, _, _⟩ := box_facts hP0.tb
  obtain ⟨⟨o0, o1, o2⟩, x0, x1, x2⟩ := box_facts hP0.out
  have n0 := hP0.st.n
  have HL : Hid (C < w.heap.size ∧ b < w.heap.size ∧ N < w.heap.size ∧ R < w.heap.size) := hlt4
  clear hP0 ih ha hst hre h0 hall hmk hsz hmet
  go_enter Tryz.func58, Tryz.ntmps58
  go_wp2_with (first
    | (go_at_call 59; refine (grow_any t.args.length (((w.alloc (tbox t (.slice a t.args.length c))).alloc (.cells #[.int .i64 0, .string ⟨#[]⟩, .slice none 0 0] 28)).alloc (.cells #[.int .i64 t.v, .string t.fn, .slice none 0 0] 28)) hlen (w.heap.size + 3) (by simp)).mono ?_; rintro e W6 ⟨ag, cg, rfl, hrow, hown, hbg⟩; have hP6 := (hbg.block (w.heap.size + 1 + 1) (by have := HP0.out.siz; omega)).trans HP0.out.out; obtain ⟨⟨e0, e1, e2⟩, f0, f1, f2⟩ := box_facts hP6; have HI0 : Hid (RenI C b N R w t (.slice a t.args.length c) (t.v) (met) 0 (.slice ag 0 cg) [] (W6.setCell ⟨w.heap.size + 1 + 1, 2, none⟩ (.slice ag 0 cg))) := pre_grow HP0.out HL.out hbg _ hrow hown; obtain ⟨⟨j0, j1, j2⟩, _, _, _⟩ := box_facts HI0.out.tb; clear hP6 hrow hown hbg))
  go_loopw [31] (fun i wr => ∃ k : Nat, k ≤ t.args.length ∧ i = .int .i64 k ∧ Hid (∃ vv ps, RenI C b N R w t (.slice a t.args.length c) (t.v) (met) k vv ps wr)) (fun i _ => t.args.length - (intOf i).toNat)
  case atStart => exact ⟨0, Nat.zero_le _, rfl, _, _, HI0.out⟩
  case round =>
    obtain ⟨k, hk, rfl, vv, ps, HI⟩ := hrel
    have HP : Hid (RenI C b N R w t (.slice a t.args.length c) (t.v) (met) k vv ps wr) := HI
    obtain ⟨⟨q0, q1, q2⟩, y0, y1, y2⟩ := box_facts HI.tb
    obtain ⟨⟨p0, p1, p2⟩, z0, z1, z2⟩ := box_facts HI.out
    have hvs : ∃ av cv, vv = .slice av k cv := row_slice HI.row
    have r0 := HI.st.r
    clear HI
    by_cases hlt : k < t.args.length
    · have hki : ((k : Int) < (t.args.length : Int)) := by omega
      have hk0 : (0 : Int) ≤ (k : Int) := by omega
      obtain ⟨bb, o, s, e1, hbl, c0, c1, c2, hs⟩ := HAA.out.nth hlt
      cases e1
      have hW : Below W0.heap.size W0 wr := hw.trans (HP.out.onl.below hw.size (by simpa using hb0))
      obtain ⟨sa, sc, rfl, _, _⟩ := hs.slice
      have c0' := kc hW hbl c0
      have c1' := kc hW hbl c1
      have c2' := kc hW hbl c2
      have hbx := below_box wr (tbox t.args[k] (.slice sa t.args[k].args.length sc))
      have hcall := HIH.out t.args[k] (List.getElem_mem hlt) (ren.rens (t.args.take k) (met)).2 (.slice sa t.args[k].args.length sc) (wr.alloc (tbox t.args[k] (.slice sa t.args[k].args.length sc))).drew ((HP.out.st.keep hbx).keep (Below.refl _ _).drew) (hW.trans ((hbx.mono hW.size).drew)) hb0 hs (HAll.out _ (List.getElem_mem hlt)) (HMK.out k hlt)
      obtain ⟨d0, d1, d2⟩ := tbox_cells wr t.args[k] (.slice sa t.args[k].args.length sc)
      have HWR : Hid (Below wr.heap.size wr (wr.alloc (tbox t.args[k] (.slice sa t.args[k].args.length sc))).drew) := hbx.drew
      have g2 := kc HWR.out (Array.getElem?_eq_some_iff.1 HP.out.out).1 p2
      have gr := kc HWR.out (World.block_lt_of_cell? wr _ r0) r0
      obtain ⟨⟨u, met2⟩, hu⟩ : ∃ u, ren t.args[k] (ren.rens (t.args.take k) (met)).2 = u := ⟨_, rfl⟩
      rw [hu] at hcall
      have HU : Hid (ren t.args[k] (ren.rens (t.args.take k) (met)).2 = (u, met2)) := hu
      obtain ⟨q, hq⟩ : ∃ q, t.args[k] = q := ⟨_, rfl⟩
      simp only [hq] at hcall c0' c1' c2' d0 d1 d2 HWR g2 gr
      have hcall2 := hcall.mono (R' := fun e' W5 => ∃ a5 c5, e' = .returned (.agg #[.int .i64 u.v, .string u.fn, .slice a5 u.args.length c5]) ∧ W5.cell? ⟨w.heap.size + 1 + 1, 2, none⟩ = some vv ∧ (∀ o, (W5.alloc o).cell? ⟨w.heap.size + 1 + 1, 2, none⟩ = some vv) ∧ Hid (∀ o, (W5.alloc o).ownsRow (w.heap.size + 3) 28 3 vv k (flatT ps)) ∧ Hid (∀ o, (W5.alloc o).heap[w.heap.size + 1 + 1]? = some (.cells #[.int .i64 (t.v), .string t.fn, vv] 28 (0, 0))) ∧ Hid (Only [b] wr W5 ∧ ArgsP (fun x => wr.heap.size ≤ x) W5 (.slice a5 u.args.length c5) u.args ∧ RenSt C b N R met2 W5)) (by
        rintro e' W5 ⟨s5, he5, hA5, hst5, hO5⟩
        obtain ⟨a5, c5, rfl⟩ := hA5.slice
        have hO : Only [b] wr W5 := (Only.of_below (B := [b]) HWR.out).trans (B' := [b]) hO5 (fun r hr => .inl hr)
        have hol := (Array.getElem?_eq_some_iff.1 HP.out.out).1
        have hOo : ∀ o k, k < wr.heap.size → k ≠ b → (W5.alloc o).heap[k]? = wr.heap[k]? := fun o k hk hkb => (Below.heap_alloc W5 o k (by have := hO.size; omega)).trans (hO.block k hk (by simpa using hkb))
        have hob : w.heap.size + 1 + 1 ≠ b := by have := HL.out.2.1; omega
        exact ⟨a5, c5, he5, (cell_block (hO.block _ hol (by simpa using hob))).trans p2, fun o => (cell_block (hOo o _ hol hob)).trans p2, fun o => row_keep HP.out.row (fun g hg => hOo o g (HP.out.row.lt g hg).2 (by have := (HP.out.row.lt g hg).1; have := HL.out.2.1; omega)), fun o => (hOo o _ hol hob).trans HP.out.out, hO, hA5.keep (Nat.le_refl _) (fun x hx _ => ⟨by have := HWR.out.size; simp at this hx; omega, rfl⟩), hst5⟩)
      obtain ⟨i0, hi0, hz0, hz1, hz2⟩ := info_parts Tryz.info28
      have HV : Hid (vv.ownBlock ≠ some (w.heap.size + 1 + 1) ∧ w.heap.size + 3 ≤ wr.heap.size) := ⟨fun e => by have := (HP.out.row.lt _ e).1; omega, HP.out.siz⟩
      have HVS : Hid (∃ av cv, vv = .slice av k cv) := hvs
      clear hcall hu HIH hq hs hvs hbx
      go_wp2
      go_region_law (first
        | (refine step_append_own _ rfl (.tmp 36) (.tmp 40) 26 rfl (w.heap.size + 3) 28 i0 _ 3 48 Tryz.underlying26 hi0 hz0 hz1 hz2 rfl (by decide) vv k (flatT ps) rfl (HW5.out _) ⟨W5.heap.size, 0, none⟩ 1 1 [.int .i64 u.v, .string u.fn, .slice a5 u.args.length c5] rfl rfl (fun j x hj => by { rw [Addr.add_mid, Nat.zero_add, cell_of_row _ _ _ _ 28 (0, 0) (MapKept.heap_alloc W5 _).1]; simpa using hj }) (by { intro x hx; simp only [List.mem_cons, List.not_mem_nil, or_false] at hx; rcases hx with rfl | rfl | rfl <;> rfl }) (by unfold maxLen; omega) (by omega) (by { have := HB5.out.1.size; have := HV.out.2; simp; omega }) ?_; intro v' w6 hrow6 hg6 hb6; obtain ⟨a6, c6, rfl⟩ := row_slice hrow6; have hb66 := (hg6.block (w.heap.size + 1 + 1) (Array.getElem?_eq_some_iff.1 (HX5.out _)).1 (fun h => HV.out.1 h.symm)).trans (HX5.out _); have hc6 : w6.cell? ⟨w.heap.size + 1 + 1, 2, none⟩ = some vv := by { rw [cell_of_row _ _ _ #[Value.int .i64 (t.v), .string t.fn, vv] 28 (0, 0) hb66]; rfl }; have hf6 : w6.frozen? ⟨w.heap.size + 1 + 1, 2, none⟩ = false := by { simp [World.frozen?, hb66] })
        | (go_simp; go_at_call 58; refine hcall2.mono ?_; rintro _ W5 ⟨a5, c5, rfl, hcell5, hcell5', HW5, HX5, HB5⟩; go_simp))
      all_goals (
        have HE : Hid (RenI C b N R w t (.slice (some ⟨bb, o, none⟩) t.args.length c) (t.v) (met) (k + 1) (.slice a6 (k + 1) c6) (ps ++ [(u, .slice a5 u.args.length c5)]) (w6.setCell ⟨w.heap.size + 1 + 1, 2, none⟩ (.slice a6 (k + 1) c6))) := ren_end HP.out HL.out hlt u met2 HU.out _ W5 _ w6 HB5.out.1 (below_box W5 _) HB5.out.2.2 HB5.out.2.1 _ hrow6 hg6 hb6
        go_wp2
        go_roundw
        case rel => exact ⟨k + 1, by omega, by go_num, _, _, HE.out⟩
        case measure => simp [intOf]; omega)
    · have hke : k = t.args.length := by omega
      subst hke
      obtain ⟨av, cv, rfl⟩ := hvs
      obtain ⟨⟨d0, d1, d2⟩, f0, f1, f2⟩ := box_facts HP.out.rb
      have HA := ren_last HP.out HL.out
      have HAH : Hid (ArgsP (fun x => w.heap.size ≤ x) (set3 wr (w.heap.size + 1) 0 (.int .i64 (t.v)) (.string t.fn) (.slice av t.args.length cv)) (.slice av t.args.length cv) (ren.rens t.args (met)).1 ∧ RenSt C b N R (ren.rens t.args (met)).2 (set3 wr (w.heap.size + 1) 0 (.int .i64 (t.v)) (.string t.fn) (.slice av t.args.length cv)) ∧ Only [b] w (set3 wr (w.heap.size + 1) 0 (.int .i64 (t.v)) (.string t.fn) (.slice av t.args.length cv))) := HA
      clear HIH HA
      go_wp2
      exact bodyPost_ret (v := tval (.mk (t.v) t.fn (ren.rens t.args (met)).1) (.slice av t.args.length cv)) (by simp [results, Tryz.results58, go_sem, *, T.v, T.fn]) rfl ⟨_, rfl, HAH.out⟩

set_option maxRecDepth 100000 in
set_option maxHeartbeats 4000000 in
theorem ren_var (C b N R : Nat) (W0 : World) (t : T) (ih : ∀ a ∈ t.args, RenAt C b N R W0 a) (met : List Int) (a : Option Addr) (c : Nat) (w : World) (hst : RenSt C b N R met w) (hw : Below W0.heap.size W0 w) (hb0 : W0.heap.size ≤ b) (ha : ArgsAt W0 (.slice a t.args.length c) t.args) (hsz : t.size ≤ 1048576) (hmet : (met.length : Int) + t.size ≤ 1073741824) (h0 : t.fn.size = 0) :
    Calls Tryz.prog 58 #[tval t (.slice a t.args.length c), .pointer (some ⟨N, 0, none⟩), .pointer (some ⟨R, 0, none⟩)] w fun e W' => ∃ sl', e = .returned (tval (ren t met).1 sl') ∧ ArgsP (fun x => w.heap.size ≤ x) W' sl' (ren t met).1.args ∧ RenSt C b N R (ren t met).2 W' ∧ Only [b] w W' := by
  have hlt4 := hst.lt
  have hre : ren t met = (.mk ((nm met t.v).2) t.fn (ren.rens t.args ((nm met t.v).1)).1, (ren.rens t.args ((nm met t.v).1)).2) := by
    rw [ren_eq]
    unfold nmT
    rw [if_pos h0]
  rw [hre]
  have hdd : t.fn.toList.isEmpty = true := by rw [ba_isEmpty]; exact decide_eq_true h0
  have hlen : t.args.length ≤ 1048576 ∧ (∀ x ∈ t.args, x.size ≤ 1048576) ∧ ∀ k (hk : k < t.args.length), (((ren.rens (t.args.take k) ((nm met t.v).1)).2.length : Int)) + t.args[k].size ≤ 1073741824 := by
    have h1 := sum_sizes t.args
    have h2 := t.size_eq
    refine ⟨by omega, fun x hx => by have := h1.2 x hx; omega, fun k hk => ?_⟩
    have h3 := rens_met (t.args.take k) ((nm met t.v).1)
    have h4 := upto_succ T.size t.args k hk
    have h5 : upto T.size t.args (k + 1) ≤ (t.args.map T.size).sum := by
      unfold upto
      rw [← List.take_append_drop (k + 1) t.args, List.map_append, List.sum_append]
      have := (sum_sizes (t.args.drop (k + 1))).1
      simp only [List.take_append_drop]
      omega
    unfold upto at h4 h5
    have h6 := nm_len met t.v
    omega
  obtain ⟨hlen, hall, hmk⟩ := hlen
  have HAll : Hid (∀ x ∈ t.args, x.size ≤ 1048576) := hall
  have HMK : Hid (∀ k (hk : k < t.args.length), (((ren.rens (t.args.take k) ((nm met t.v).1)).2.length : Int)) + t.args[k].size ≤ 1073741824) := hmk
  have hP0 := pre_start (sl := .slice a t.args.length c) (t := t) hst
  have HAA : Hid (ArgsAt W0 (.slice a t.args.length c) t.args) := ha
  have HIH : Hid (∀ a ∈ t.args, RenAt C b N R W0 a) := ih
  have HP0 : Hid (PreI C b N R w t (.slice a t.args.length c) t.v met (((w.alloc (tbox t (.slice a t.args.length c))).alloc (.cells #[.int .i64 0, .string ⟨#[]⟩, .slice none 0 0] 28)).alloc (.cells #[.int .i64 t.v, .string t.fn, .slice none 0 0] 28))) := hP0
  obtain ⟨⟨b0, b1, b2⟩, _, _, _⟩ := box_facts hP0.tb
  obtain ⟨⟨o0, o1, o2⟩, x0, x1, x2⟩ := box_facts hP0.out
  have n0 := hP0.st.n
  have hnm := name_any b C met t.v (((w.alloc (tbox t (.slice a t.args.length c))).alloc (.cells #[.int .i64 0, .string ⟨#[]⟩, .slice none 0 0] 28)).alloc (.cells #[.int .i64 t.v, .string t.fn, .slice none 0 0] 28)) hP0.st.c hst.cb hP0.st.m (by have := size_pos t; omega)
  have HL : Hid (C < w.heap.size ∧ b < w.heap.size ∧ N < w.heap.size ∧ R < w.heap.size) := hlt4
  clear hP0 ih ha hst hre h0 hall hmk hsz hmet
  go_enter Tryz.func58, Tryz.ntmps58
  go_wp2_with (first
    | (go_at_call 59; refine (grow_any t.args.length (W4.setCell ⟨w.heap.size + 1 + 1, 0, none⟩ (.int .i64 (nm met t.v).2)) hlen (w.heap.size + 3) HP5.out.siz).mono ?_; rintro e W6 ⟨ag, cg, rfl, hrow, hown, hbg⟩; have hP6 := (hbg.block (w.heap.size + 1 + 1) (by have := HP5.out.siz; omega)).trans HP5.out.out; obtain ⟨⟨e0, e1, e2⟩, f0, f1, f2⟩ := box_facts hP6; have HI0 : Hid (RenI C b N R w t (.slice a t.args.length c) ((nm met t.v).2) ((nm met t.v).1) 0 (.slice ag 0 cg) [] (W6.setCell ⟨w.heap.size + 1 + 1, 2, none⟩ (.slice ag 0 cg))) := pre_grow HP5.out HL.out hbg _ hrow hown; obtain ⟨⟨j0, j1, j2⟩, _, _, _⟩ := box_facts HI0.out.tb; clear hP6 hrow hown hbg)
    | (go_at_call 57; refine hnm.mono ?_; rintro e W4 ⟨rfl, hm4, hO4⟩; have HP5 : Hid (PreI C b N R w t (.slice a t.args.length c) (nm met t.v).2 (nm met t.v).1 (W4.setCell ⟨w.heap.size + 1 + 1, 0, none⟩ (.int .i64 (nm met t.v).2))) := pre_name HP0.out HL.out hm4 hO4; have hP4 := (hO4.block (w.heap.size + 1 + 1) (by have := HP0.out.siz; omega) (by have := HL.out.2.1; simp; omega)).trans HP0.out.out; obtain ⟨⟨l0, l1, l2⟩, m0, m1, m2⟩ := box_facts hP4; obtain ⟨⟨s0, s1, s2⟩, _, _, _⟩ := box_facts HP5.out.out; obtain ⟨⟨v0', v1', v2'⟩, _, _, _⟩ := box_facts HP5.out.tb; clear hm4 hO4 hP4))
  go_loopw [31] (fun i wr => ∃ k : Nat, k ≤ t.args.length ∧ i = .int .i64 k ∧ Hid (∃ vv ps, RenI C b N R w t (.slice a t.args.length c) ((nm met t.v).2) ((nm met t.v).1) k vv ps wr)) (fun i _ => t.args.length - (intOf i).toNat)
  case atStart => exact ⟨0, Nat.zero_le _, rfl, _, _, HI0.out⟩
  case round =>
    obtain ⟨k, hk, rfl, vv, ps, HI⟩ := hrel
    have HP : Hid (RenI C b N R w t (.slice a t.args.length c) ((nm met t.v).2) ((nm met t.v).1) k vv ps wr) := HI
    obtain ⟨⟨q0, q1, q2⟩, y0, y1, y2⟩ := box_facts HI.tb
    obtain ⟨⟨p0, p1, p2⟩, z0, z1, z2⟩ := box_facts HI.out
    have hvs : ∃ av cv, vv = .slice av k cv := row_slice HI.row
    have r0 := HI.st.r
    clear HI
    by_cases hlt : k < t.args.length
    · have hki : ((k : Int) < (t.args.length : Int)) := by omega
      have hk0 : (0 : Int) ≤ (k : Int) := by omega
      obtain ⟨bb, o, s, e1, hbl, c0, c1, c2, hs⟩ := HAA.out.nth hlt
      cases e1
      have hW : Below W0.heap.size W0 wr := hw.trans (HP.out.onl.below hw.size (by simpa using hb0))
      obtain ⟨sa, sc, rfl, _, _⟩ := hs.slice
      have c0' := kc hW hbl c0
      have c1' := kc hW hbl c1
      have c2' := kc hW hbl c2
      have hbx := below_box wr (tbox t.args[k] (.slice sa t.args[k].args.length sc))
      have hcall := HIH.out t.args[k] (List.getElem_mem hlt) (ren.rens (t.args.take k) ((nm met t.v).1)).2 (.slice sa t.args[k].args.length sc) (wr.alloc (tbox t.args[k] (.slice sa t.args[k].args.length sc))).drew ((HP.out.st.keep hbx).keep (Below.refl _ _).drew) (hW.trans ((hbx.mono hW.size).drew)) hb0 hs (HAll.out _ (List.getElem_mem hlt)) (HMK.out k hlt)
      obtain ⟨d0, d1, d2⟩ := tbox_cells wr t.args[k] (.slice sa t.args[k].args.length sc)
      have HWR : Hid (Below wr.heap.size wr (wr.alloc (tbox t.args[k] (.slice sa t.args[k].args.length sc))).drew) := hbx.drew
      have g2 := kc HWR.out (Array.getElem?_eq_some_iff.1 HP.out.out).1 p2
      have gr := kc HWR.out (World.block_lt_of_cell? wr _ r0) r0
      obtain ⟨⟨u, met2⟩, hu⟩ : ∃ u, ren t.args[k] (ren.rens (t.args.take k) ((nm met t.v).1)).2 = u := ⟨_, rfl⟩
      rw [hu] at hcall
      have HU : Hid (ren t.args[k] (ren.rens (t.args.take k) ((nm met t.v).1)).2 = (u, met2)) := hu
      obtain ⟨q, hq⟩ : ∃ q, t.args[k] = q := ⟨_, rfl⟩
      simp only [hq] at hcall c0' c1' c2' d0 d1 d2 HWR g2 gr
      have hcall2 := hcall.mono (R' := fun e' W5 => ∃ a5 c5, e' = .returned (.agg #[.int .i64 u.v, .string u.fn, .slice a5 u.args.length c5]) ∧ W5.cell? ⟨w.heap.size + 1 + 1, 2, none⟩ = some vv ∧ (∀ o, (W5.alloc o).cell? ⟨w.heap.size + 1 + 1, 2, none⟩ = some vv) ∧ Hid (∀ o, (W5.alloc o).ownsRow (w.heap.size + 3) 28 3 vv k (flatT ps)) ∧ Hid (∀ o, (W5.alloc o).heap[w.heap.size + 1 + 1]? = some (.cells #[.int .i64 ((nm met t.v).2), .string t.fn, vv] 28 (0, 0))) ∧ Hid (Only [b] wr W5 ∧ ArgsP (fun x => wr.heap.size ≤ x) W5 (.slice a5 u.args.length c5) u.args ∧ RenSt C b N R met2 W5)) (by
        rintro e' W5 ⟨s5, he5, hA5, hst5, hO5⟩
        obtain ⟨a5, c5, rfl⟩ := hA5.slice
        have hO : Only [b] wr W5 := (Only.of_below (B := [b]) HWR.out).trans (B' := [b]) hO5 (fun r hr => .inl hr)
        have hol := (Array.getElem?_eq_some_iff.1 HP.out.out).1
        have hOo : ∀ o k, k < wr.heap.size → k ≠ b → (W5.alloc o).heap[k]? = wr.heap[k]? := fun o k hk hkb => (Below.heap_alloc W5 o k (by have := hO.size; omega)).trans (hO.block k hk (by simpa using hkb))
        have hob : w.heap.size + 1 + 1 ≠ b := by have := HL.out.2.1; omega
        exact ⟨a5, c5, he5, (cell_block (hO.block _ hol (by simpa using hob))).trans p2, fun o => (cell_block (hOo o _ hol hob)).trans p2, fun o => row_keep HP.out.row (fun g hg => hOo o g (HP.out.row.lt g hg).2 (by have := (HP.out.row.lt g hg).1; have := HL.out.2.1; omega)), fun o => (hOo o _ hol hob).trans HP.out.out, hO, hA5.keep (Nat.le_refl _) (fun x hx _ => ⟨by have := HWR.out.size; simp at this hx; omega, rfl⟩), hst5⟩)
      obtain ⟨i0, hi0, hz0, hz1, hz2⟩ := info_parts Tryz.info28
      have HV : Hid (vv.ownBlock ≠ some (w.heap.size + 1 + 1) ∧ w.heap.size + 3 ≤ wr.heap.size) := ⟨fun e => by have := (HP.out.row.lt _ e).1; omega, HP.out.siz⟩
      have HVS : Hid (∃ av cv, vv = .slice av k cv) := hvs
      clear hcall hu HIH hq hs hvs hbx
      go_wp2
      go_region_law (first
        | (refine step_append_own _ rfl (.tmp 36) (.tmp 40) 26 rfl (w.heap.size + 3) 28 i0 _ 3 48 Tryz.underlying26 hi0 hz0 hz1 hz2 rfl (by decide) vv k (flatT ps) rfl (HW5.out _) ⟨W5.heap.size, 0, none⟩ 1 1 [.int .i64 u.v, .string u.fn, .slice a5 u.args.length c5] rfl rfl (fun j x hj => by { rw [Addr.add_mid, Nat.zero_add, cell_of_row _ _ _ _ 28 (0, 0) (MapKept.heap_alloc W5 _).1]; simpa using hj }) (by { intro x hx; simp only [List.mem_cons, List.not_mem_nil, or_false] at hx; rcases hx with rfl | rfl | rfl <;> rfl }) (by unfold maxLen; omega) (by omega) (by { have := HB5.out.1.size; have := HV.out.2; simp; omega }) ?_; intro v' w6 hrow6 hg6 hb6; obtain ⟨a6, c6, rfl⟩ := row_slice hrow6; have hb66 := (hg6.block (w.heap.size + 1 + 1) (Array.getElem?_eq_some_iff.1 (HX5.out _)).1 (fun h => HV.out.1 h.symm)).trans (HX5.out _); have hc6 : w6.cell? ⟨w.heap.size + 1 + 1, 2, none⟩ = some vv := by { rw [cell_of_row _ _ _ #[Value.int .i64 ((nm met t.v).2), .string t.fn, vv] 28 (0, 0) hb66]; rfl }; have hf6 : w6.frozen? ⟨w.heap.size + 1 + 1, 2, none⟩ = false := by { simp [World.frozen?, hb66] })
        | (go_simp; go_at_call 58; refine hcall2.mono ?_; rintro _ W5 ⟨a5, c5, rfl, hcell5, hcell5', HW5, HX5, HB5⟩; go_simp))
      all_goals (
        have HE : Hid (RenI C b N R w t (.slice (some ⟨bb, o, none⟩) t.args.length c) ((nm met t.v).2) ((nm met t.v).1) (k + 1) (.slice a6 (k + 1) c6) (ps ++ [(u, .slice a5 u.args.length c5)]) (w6.setCell ⟨w.heap.size + 1 + 1, 2, none⟩ (.slice a6 (k + 1) c6))) := ren_end HP.out HL.out hlt u met2 HU.out _ W5 _ w6 HB5.out.1 (below_box W5 _) HB5.out.2.2 HB5.out.2.1 _ hrow6 hg6 hb6
        go_wp2
        go_roundw
        case rel => exact ⟨k + 1, by omega, by go_num, _, _, HE.out⟩
        case measure => simp [intOf]; omega)
    · have hke : k = t.args.length := by omega
      subst hke
      obtain ⟨av, cv, rfl⟩ := hvs
      obtain ⟨⟨d0, d1, d2⟩, f0, f1, f2⟩ := box_facts HP.out.rb
      have HA := ren_last HP.out HL.out
      have HAH : Hid (ArgsP (fun x => w.heap.size ≤ x) (set3 wr (w.heap.size + 1) 0 (.int .i64 ((nm met t.v).2)) (.string t.fn) (.slice av t.args.length cv)) (.slice av t.args.length cv) (ren.rens t.args ((nm met t.v).1)).1 ∧ RenSt C b N R (ren.rens t.args ((nm met t.v).1)).2 (set3 wr (w.heap.size + 1) 0 (.int .i64 ((nm met t.v).2)) (.string t.fn) (.slice av t.args.length cv)) ∧ Only [b] w (set3 wr (w.heap.size + 1) 0 (.int .i64 ((nm met t.v).2)) (.string t.fn) (.slice av t.args.length cv))) := HA
      clear HIH HA
      go_wp2
      exact bodyPost_ret (v := tval (.mk ((nm met t.v).2) t.fn (ren.rens t.args ((nm met t.v).1)).1) (.slice av t.args.length cv)) (by simp [results, Tryz.results58, go_sem, *, T.v, T.fn]) rfl ⟨_, rfl, HAH.out⟩

theorem ren_any (C b N R : Nat) (W0 : World) (t : T) : RenAt C b N R W0 t := by
  induction t using T.ind with
  | _ t ih =>
    intro met sl w hst hw hb0 ha hsz hmet
    obtain ⟨a, c, rfl, _, _⟩ := ha.slice
    by_cases h0 : t.fn.size = 0
    · exact ren_var C b N R W0 t ih met a c w hst hw hb0 ha hsz hmet h0
    · exact ren_fn C b N R W0 t ih met a c w hst hw hb0 ha hsz hmet h0

end Go.Proofs.YtgnjgpplelakkaaGreat
