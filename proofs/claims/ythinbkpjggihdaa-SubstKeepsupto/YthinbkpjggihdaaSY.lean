/-
  The document's Put, at a term that is no variable.
-/
import Derived.Test.YthinbkpjggihdaaSX
import Derived.Test.YthinbkpjggihdaaSF
namespace Go.Proofs.Ythinbkpjggihdaa
open Go.RowKit Go.Maps

theorem put_start (W0 w : World) (t : T) (sl : Value) (σ : Int → T) : PutI W0 w t sl σ 0 (.slice none 0 0) []
    (((w.alloc (.cells #[.int .i64 t.v, .string t.fn, sl] 25)).alloc (.cells #[.int .i64 0, .string ⟨#[]⟩, .slice none 0 0] 25)).alloc (.cells #[.int .i64 0, .string t.fn, .slice none 0 0] 25)) := by
  have h1 := (MapKept.heap_alloc w (.cells #[.int .i64 t.v, .string t.fn, sl] 25)).1
  have h2 := (MapKept.heap_alloc (w.alloc (.cells #[.int .i64 t.v, .string t.fn, sl] 25)) (.cells #[.int .i64 0, .string ⟨#[]⟩, .slice none 0 0] 25)).1
  have h3 := (MapKept.heap_alloc ((w.alloc (.cells #[.int .i64 t.v, .string t.fn, sl] 25)).alloc (.cells #[.int .i64 0, .string ⟨#[]⟩, .slice none 0 0] 25)) (.cells #[.int .i64 0, .string t.fn, .slice none 0 0] 25)).1
  rw [World.size_alloc] at h2
  rw [World.size_alloc, World.size_alloc] at h3
  refine ⟨rfl, fun p hp => absurd hp (by simp), World.ownsRow_nil _ _ _ _, h3, ?_, ?_, (below_box2 w _ _).trans ((below_box _ _).mono (by simp; omega)), by simp⟩
  · rw [Below.heap_alloc _ _ _ (by simp; omega), Below.heap_alloc _ _ _ (by simp)]
    exact h1
  · rw [Below.heap_alloc _ _ _ (by simp)]
    exact h2

theorem put_last {W0 w : World} {t : T} {sl : Value} {σ : Int → T} {v : Value} {ps : List (T × Value)} {wr : World} (h : PutI W0 w t sl σ t.args.length v ps wr) (hW0 : W0.heap.size ≤ w.heap.size) : ArgsP (fun b => b < W0.heap.size ∨ w.heap.size ≤ b) (set3 wr (w.heap.size + 1) 0 (.int .i64 0) (.string t.fn) v) v (t.args.map (T.app σ)) ∧ Below w.heap.size w (set3 wr (w.heap.size + 1) 0 (.int .i64 0) (.string t.fn) v) := by
  have hvl : ∀ g, v.ownBlock = some g → w.heap.size + 3 ≤ g ∧ g < wr.heap.size := fun g e => h.row.lt g e
  refine ⟨argsP_of_row (row_keep h.row fun g hg => set3_other _ _ _ _ _ _ g (by have := hvl g hg; omega)) (by simp) (by rw [h.args, List.take_length]) (fun b hb => .inr (by omega)) (fun p hp => (h.ok p hp).keep (by rw [set3_size]; exact Nat.le_refl _) (fun b ⟨hb, _⟩ _ => ⟨?_, set3_other _ _ _ _ _ _ b ?_⟩)), set3_below h.bel _ 0 _ _ _ (Nat.le_succ _)⟩
  · rcases hb with hb | hb
    · exact .inl hb
    · exact .inr (by omega)
  · rcases hb with hb | hb <;> omega

set_option maxRecDepth 100000 in
set_option maxHeartbeats 2000000 in
theorem put_fn (W0 : World) (v : Value) (l : List Bd) (hl : BindsAt W0 v l) (t : T) (ih : ∀ a ∈ t.args, PutAt W0 v l a) (a : Option Addr) (c : Nat) (w : World) (hw : Below W0.heap.size W0 w) (ha : ArgsAt W0 (.slice a t.args.length c) t.args) (hsh : t.shape = true) (h0 : t.fn.size ≠ 0) :
    Calls Try.prog 33 #[v, tval t (.slice a t.args.length c)] w fun e W' => ∃ sl', e = .returned (tval (t.app (img l)) sl') ∧ ArgsP (fun b => b < W0.heap.size ∨ w.heap.size ≤ b) W' sl' (t.app (img l)).args ∧ Below w.heap.size w W' := by
  have hap : t.app (img l) = .mk 0 t.fn (t.args.map (T.app (img l))) := by rw [T.app_eq, if_neg h0]
  rw [hap]
  have hdd : t.fn.toList.isEmpty = false := by rw [ba_isEmpty]; exact decide_eq_false h0
  rw [T.shape_eq, if_neg h0] at hsh
  simp only [Bool.and_eq_true, decide_eq_true_eq, List.all_eq_true] at hsh
  obtain ⟨⟨hx16, h16⟩, hshs⟩ := hsh
  clear hx16
  obtain ⟨a', c', rfl⟩ := hl.slice
  obtain ⟨t0, t1, t2⟩ := tbox_cells w t (.slice a t.args.length c)
  have hbb := below_box (w.alloc (tbox t (.slice a t.args.length c))) (.cells #[.int .i64 0, .string ⟨#[]⟩, .slice none 0 0] 25)
  have t0' := kc hbb (by simp) t0
  have t1' := kc hbb (by simp) t1
  have HAA : Hid (ArgsAt W0 (.slice a t.args.length c) t.args) := ha
  have HIH : Hid (∀ a ∈ t.args, PutAt W0 (.slice a' l.length c') l a) := ih
  clear t0 t1 t2 hbb hap h0 hl ih ha
  go_enter Try.func33, Try.ntmps33
  go_wp2
  go_loopw [6] (fun i wr => ∃ k : Nat, k ≤ t.args.length ∧ i = .int .i64 k ∧ Hid (∃ vv ps, PutI W0 w t (.slice a t.args.length c) (img l) k vv ps wr)) (fun i _ => t.args.length - (intOf i).toNat)
  case atStart =>
    refine ⟨0, Nat.zero_le _, rfl, .slice none 0 0, [], ?_⟩
    exact put_start W0 w t (.slice a t.args.length c) (img l)
  case round =>
    obtain ⟨k, hk, rfl, vv, ps, HI⟩ := hrel
    have HP : Hid (PutI W0 w t (.slice a t.args.length c) (img l) k vv ps wr) := HI
    obtain ⟨⟨b0, b1, b2⟩, y0, y1, y2⟩ := box_facts HI.tb
    obtain ⟨⟨o0, o1, o2⟩, x0, x1, x2⟩ := box_facts HI.out
    clear HI
    by_cases hlt : k < t.args.length
    · have hki : ((k : Int) < (t.args.length : Int)) := by omega
      obtain ⟨b, o, s, e1, hbl, c0, c1, c2, hs⟩ := HAA.out.nth hlt
      cases e1
      have hW : Below W0.heap.size W0 wr := hw.trans (HP.out.bel.mono hw.size)
      have hcall := HIH.out t.args[k] (List.getElem_mem hlt) s wr.drew hW.drew hs (hshs _ (List.getElem_mem hlt))
      obtain ⟨sa, sc, rfl, _, _⟩ := hs.slice
      have c0' := kc hW hbl c0
      have c1' := kc hW hbl c1
      have c2' := kc hW hbl c2
      obtain ⟨u, hu⟩ : ∃ u, t.args[k].app (img l) = u := ⟨_, rfl⟩
      rw [hu] at hcall
      have HU : Hid (t.args[k].app (img l) = u) := hu
      obtain ⟨q, hq⟩ : ∃ q, t.args[k] = q := ⟨_, rfl⟩
      simp only [hq] at hcall c0' c1' c2'
      have hcall2 := hcall.mono (R' := fun e' W5 => ∃ a5 c5, e' = .returned (.agg #[.int .i64 u.v, .string u.fn, .slice a5 u.args.length c5]) ∧ W5.cell? ⟨w.heap.size + 1 + 1, 2, none⟩ = some vv ∧ (∀ o, (W5.alloc o).cell? ⟨w.heap.size + 1 + 1, 2, none⟩ = some vv) ∧ Hid (∀ o, (W5.alloc o).ownsRow (w.heap.size + 3) 25 3 vv k (flatT ps)) ∧ Hid (∀ o, (W5.alloc o).heap[w.heap.size + 1 + 1]? = some (.cells #[.int .i64 0, .string t.fn, vv] 25 (0, 0))) ∧ Hid (Below wr.heap.size wr W5 ∧ ArgsP (fun b => b < W0.heap.size ∨ wr.heap.size ≤ b) W5 (.slice a5 u.args.length c5) u.args)) (by
        rintro e' W5 ⟨s5, he5, hA5, hb5⟩
        obtain ⟨a5, c5, rfl⟩ := hA5.slice
        have hb5' : Below wr.heap.size wr W5 := (Below.refl _ _).drew.trans hb5
        have hb6 : ∀ o, Below wr.heap.size wr (W5.alloc o) := fun o => hb5'.trans ((below_box W5 o).mono hb5'.size)
        have hol := (Array.getElem?_eq_some_iff.1 HP.out.out).1
        exact ⟨a5, c5, he5, kc hb5' hol o2, fun o => kc (hb6 o) hol o2, fun o => row_keep HP.out.row (fun g hg => (hb6 o).block g (HP.out.row.lt g hg).2), fun o => ((hb6 o).block _ hol).trans HP.out.out, hb5', hA5⟩)
      obtain ⟨i0, hi0, hz0, hz1, hz2⟩ := info_parts Try.info25
      have o2d : wr.drew.cell? ⟨w.heap.size + 1 + 1, 2, none⟩ = some vv := o2
      have HV : Hid (vv.ownBlock ≠ some (w.heap.size + 1 + 1) ∧ w.heap.size + 3 ≤ wr.heap.size) := ⟨fun e => by have := (HP.out.row.lt _ e).1; omega, HP.out.siz⟩
      clear hcall hu HIH hq hs
      go_wp2
      go_region_law (first
        | (refine step_append_own _ rfl (.tmp 25) (.tmp 33) 23 rfl (w.heap.size + 3) 25 i0 _ 3 48 Try.underlying23 hi0 hz0 hz1 hz2 rfl (by decide) vv k (flatT ps) rfl (HW5.out _) ⟨W5.heap.size, 0, none⟩ 1 1 [.int .i64 u.v, .string u.fn, .slice a5 u.args.length c5] rfl rfl (fun j x hj => by { rw [Addr.add_mid, Nat.zero_add, cell_of_row _ _ _ _ 25 (0, 0) (MapKept.heap_alloc W5 _).1]; simpa using hj }) (by { intro x hx; simp only [List.mem_cons, List.not_mem_nil, or_false] at hx; rcases hx with rfl | rfl | rfl <;> rfl }) (by unfold maxLen; omega) (by omega) (by { have := HB5.out.1.size; have := HV.out.2; simp; omega }) ?_; intro v' w6 hrow6 hg6 hb6; obtain ⟨a6, c6, rfl⟩ := row_slice hrow6; have hb66 := (hg6.block (w.heap.size + 1 + 1) (Array.getElem?_eq_some_iff.1 (HX5.out _)).1 (fun h => HV.out.1 h.symm)).trans (HX5.out _); have hc6 : w6.cell? ⟨w.heap.size + 1 + 1, 2, none⟩ = some vv := by { rw [cell_of_row _ _ _ #[Value.int .i64 0, .string t.fn, vv] 25 (0, 0) hb66]; rfl }; have hf6 : w6.frozen? ⟨w.heap.size + 1 + 1, 2, none⟩ = false := by { simp [World.frozen?, hb66] })
        | (go_simp; go_at_call 33; refine hcall2.mono ?_; rintro _ W5 ⟨a5, c5, rfl, hcell5, hcell5', HW5, HX5, HB5⟩; go_simp))
      all_goals (
        have HE : Hid (PutI W0 w t (.slice (some ⟨b, o, none⟩) t.args.length c) (img l) (k + 1) (.slice a6 (k + 1) c6) (ps ++ [(u, .slice a5 u.args.length c5)]) (w6.setCell ⟨w.heap.size + 1 + 1, 2, none⟩ (.slice a6 (k + 1) c6))) := put_end HP.out hw.size hlt u HU.out _ W5 _ w6 HB5.out.1 (below_box W5 _) HB5.out.2 _ hrow6 hg6 hb6
        go_wp2
        go_roundw
        case rel => exact ⟨k + 1, by omega, by go_num, _, _, HE.out⟩
        case measure => simp [intOf]; omega)
    · have hke : k = t.args.length := by omega
      subst hke
      obtain ⟨av, cv, rfl⟩ := row_slice HP.out.row
      obtain ⟨⟨d0, d1, d2⟩, z0, z1, z2⟩ := box_facts HP.out.rb
      have HA : Hid (ArgsP (fun b => b < W0.heap.size ∨ w.heap.size ≤ b) (set3 wr (w.heap.size + 1) 0 (.int .i64 0) (.string t.fn) (.slice av t.args.length cv)) (.slice av t.args.length cv) (t.args.map (T.app (img l))) ∧ Below w.heap.size w (set3 wr (w.heap.size + 1) 0 (.int .i64 0) (.string t.fn) (.slice av t.args.length cv))) := put_last HP.out hw.size
      clear HIH
      go_wp2
      exact bodyPost_ret (v := tval (.mk 0 t.fn (t.args.map (T.app (img l)))) (.slice av t.args.length cv)) (by simp [results, Try.results33, go_sem, *, T.v, T.fn]) rfl ⟨_, rfl, HA.out⟩

theorem put_any (W0 : World) (v : Value) (l : List Bd) (hl : BindsAt W0 v l) (t : T) : PutAt W0 v l t := by
  induction t using T.ind with
  | _ t ih =>
    intro sl w hw ha hsh
    obtain ⟨a, c, rfl, _, _⟩ := ha.slice
    by_cases h0 : t.fn.size = 0
    · exact put_var W0 v l hl t a _ c w hw h0
    · exact put_fn W0 v l hl t ih a c w hw ha hsh h0

end Go.Proofs.Ythinbkpjggihdaa
