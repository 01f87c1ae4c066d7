/-
  The document's Put at a clause.
-/
import Derived.Test.YtgnjgpplelakkaaGreatMI
import Derived.Test.YtgnjgpplelakkaaGreatMG
namespace Go.Proofs.YtgnjgpplelakkaaGreat
open Go.RowKit Go.Maps Go.Shelf

/-- What stands in Put's loop. -/
structure PuI (w : World) (r : List Lt) (v : Value) (ps : List Lp) (W : World) : Prop where
  args : ps.map (·.1) = r
  ok : ∀ p ∈ ps, ArgsP (fun x => v.ownBlock ≠ some x) W p.2.1 p.1.l.args ∧ ArgsP (fun x => v.ownBlock ≠ some x) W p.2.2 p.1.r.args
  row : W.ownsRow w.heap.size 40 7 v ps.length (flatL ps)
  bel : Below w.heap.size w W

theorem PuI.clause {w : World} {r : List Lt} {v : Value} {ps : List Lp} {W : World} (h : PuI w r v ps W) : ClauseAt W v r := by
  rw [← h.args]
  exact clause_of_row h.row fun p hp => ⟨(h.ok p hp).1.args, (h.ok p hp).2.args⟩

theorem PuI.keep {w : World} {r : List Lt} {v : Value} {ps : List Lp} {W W' : World} (h : PuI w r v ps W) (hb : Below W.heap.size W W') : PuI w r v ps W' :=
  ⟨h.args, fun p hp => ⟨(h.ok p hp).1.keep hb.size (fun k hk hlt => ⟨hk, hb.block k hlt⟩), (h.ok p hp).2.keep hb.size (fun k hk hlt => ⟨hk, hb.block k hlt⟩)⟩, row_keep h.row (fun g hg => hb.block g (h.row.lt g hg).2), h.bel.trans (hb.mono h.bel.size)⟩

theorem pu_end {w : World} {r : List Lt} {v : Value} {ps : List Lp} {wr : World} (h : PuI w r v ps wr) (u : Lp) (W5 X w6 : World) (hX : Below wr.heap.size wr W5) (hX5 : Below W5.heap.size W5 X) (hA : ArgsP (fun x => v.ownBlock ≠ some x) W5 u.2.1 u.1.l.args) (hA' : ArgsP (fun x => v.ownBlock ≠ some x) W5 u.2.2 u.1.r.args) (v' : Value)
    (hown : w6.ownsRow w.heap.size 40 7 v' (ps.length + 1) (flatL ps ++ lcells u)) (hg : X.grownBy w6 v.ownBlock) (hat : v'.ownBlock = v.ownBlock ∨ v'.ownBlock = some X.heap.size) :
    PuI w (r ++ [u.1]) v' (ps ++ [u]) w6 := by
  have hXs := hX.size
  have hX5s := hX5.size
  have hgs := hg.size
  have hws := h.bel.size
  have hvl : ∀ g, v.ownBlock = some g → w.heap.size ≤ g ∧ g < wr.heap.size := fun g e => h.row.lt g e
  have kp5 : ∀ k, k < W5.heap.size → v.ownBlock ≠ some k → w6.heap[k]? = W5.heap[k]? := fun k hk hv => by
    rw [hg.block k (by omega) (fun e => hv e.symm), hX5.block k hk]
  have kp : ∀ k, k < wr.heap.size → v.ownBlock ≠ some k → w6.heap[k]? = wr.heap[k]? := fun k hk hv => by
    rw [kp5 k (by omega) hv, hX.block k hk]
  have hv'b : ∀ b, b < X.heap.size → v.ownBlock ≠ some b → v'.ownBlock ≠ some b := fun b hb hne => by
    rcases hat with e | e
    · rw [e]; exact hne
    · rw [e]; intro e2; have := Option.some.inj e2; omega
  have old : ∀ {s ls}, ArgsP (fun x => v.ownBlock ≠ some x) wr s ls → ArgsP (fun x => v'.ownBlock ≠ some x) w6 s ls := fun hh => hh.keep (by omega) (fun x hne hlt => ⟨hv'b x (by omega) hne, kp x hlt hne⟩)
  have new : ∀ {s ls}, ArgsP (fun x => v.ownBlock ≠ some x) W5 s ls → ArgsP (fun x => v'.ownBlock ≠ some x) w6 s ls := fun hh => hh.keep (by omega) (fun x hne hlt => ⟨hv'b x (by omega) hne, kp5 x hlt hne⟩)
  refine ⟨by rw [List.map_append, h.args]; rfl, fun p hp => ?_, by rw [List.length_append, flatL_snoc]; exact hown, ?_⟩
  · rcases List.mem_append.1 hp with hp | hp
    · exact ⟨old (h.ok p hp).1, old (h.ok p hp).2⟩
    · simp at hp
      subst hp
      exact ⟨new hA, new hA'⟩
  · exact ⟨by rw [hg.os, hX5.os, hX.os, h.bel.os], by rw [hg.tape, hX5.tape, hX.tape, h.bel.tape], by rw [hg.output, hX5.output, hX.output, h.bel.output], by omega, fun j hj => (kp j (by omega) (fun e => by have := hvl j e; omega)).trans (h.bel.block j hj)⟩

set_option maxRecDepth 100000 in
set_option maxHeartbeats 4000000 in
theorem cput_any (bs : List Bd) (l : List Lt) (vb v : Value) (w : World) (hb : BindsAt w vb bs) (hl : ClauseAt w v l) (hsh : Shaped l) (hlen : l.length ≤ 1048576) :
    Calls Tryz.prog 26 #[vb, v] w fun e W' => ∃ v', e = .returned v' ∧ ClauseAt W' v' (l.map (appL (img bs))) ∧ Below w.heap.size w W' := by
  obtain ⟨a, c, rfl⟩ := hl.slice
  obtain ⟨ba, bc, rfl⟩ := hb.slice
  have HL : Hid (ClauseAt w (.slice a l.length c) l) := hl
  have HB : Hid (BindsAt w (.slice ba bs.length bc) bs) := hb
  have HSH : Hid (Shaped l) := hsh
  clear hl hb hsh
  go_enter Tryz.func26, Tryz.ntmps26
  go_wp2
  go_loopw [5, 6] (fun vo vi wr => ∃ i : Nat, vi = .int .i64 i ∧ i ≤ l.length ∧ ∃ ps, PuI w ((l.take i).map (appL (img bs))) vo ps wr) (fun _ vi _ => l.length - (intOf vi).toNat)
  case atStart => exact ⟨0, rfl, Nat.zero_le _, [], rfl, fun p hp => absurd hp (by simp), World.ownsRow_nil _ _ _ _, Below.refl _ _⟩
  case round =>
    obtain ⟨i, rfl, hi, ps, hI⟩ := hrel
    obtain ⟨pa, pc, hvo⟩ := row_slice hI.row
    subst hvo
    by_cases hlt : i < l.length
    · obtain ⟨bb, o, sl, sr, e1, hX0⟩ := HL.out.nth hlt
      cases e1
      obtain ⟨hs1, hs2⟩ := HSH.out _ (List.getElem_mem hlt)
      have HN : Hid ((l.take (i + 1)).map (appL (img bs)) = (l.take i).map (appL (img bs)) ++ [⟨l[i].neg, l[i].l.app (img bs), l[i].r.app (img bs)⟩]) := by show _ = _; rw [List.take_succ_eq_append_getElem hlt, List.map_append]; rfl
      obtain ⟨x, hx⟩ : ∃ x, l[i] = x := ⟨_, rfl⟩
      simp only [hx] at hX0 HN hs1 hs2
      obtain ⟨n, xl, xr⟩ := x
      simp only at hX0 HN hs1 hs2
      have hpl : ps.length ≤ i := by
        have h1 := congrArg List.length hI.args
        rw [List.length_map, List.length_map, List.length_take] at h1
        omega
      have HV : Hid (∀ k, (Value.slice pa ps.length pc).ownBlock = some k → w.heap.size ≤ k ∧ k < wr.drew.heap.size) := fun k hk => hI.row.lt k hk
      have HId : Hid (PuI w ((l.take i).map (appL (img bs))) (.slice pa ps.length pc) ps wr.drew) := hI.keep (Below.refl _ wr).drew
      have hX := hX0.keep HId.out.bel
      have hcl := put_any w _ bs HB.out xl sl wr.drew HId.out.bel hX0.al hs1
      have HCR : Hid (∀ W3, Below w.heap.size w W3 → Calls Tryz.prog 53 #[.slice ba bs.length bc, tval xr sr] W3 fun e W' => ∃ sl', e = .returned (tval (xr.app (img bs)) sl') ∧ ArgsP (fun b => b < w.heap.size ∨ W3.heap.size ≤ b) W' sl' (xr.app (img bs)).args ∧ Below W3.heap.size W3 W') := fun W3 h3 => put_any w _ bs HB.out xr sr W3 h3 hX0.ar hs2
      obtain ⟨c0, c1, c2, c3, c4, c5, c6⟩ : wr.drew.cell? ⟨bb, o + i * 7, none⟩ = some (.bool n) ∧ wr.drew.cell? ⟨bb, o + i * 7 + 1, none⟩ = some (.int .i64 xl.v) ∧ wr.drew.cell? ⟨bb, o + i * 7 + 2, none⟩ = some (.string xl.fn) ∧ wr.drew.cell? ⟨bb, o + i * 7 + 3, none⟩ = some sl ∧ wr.drew.cell? ⟨bb, o + i * 7 + 4, none⟩ = some (.int .i64 xr.v) ∧ wr.drew.cell? ⟨bb, o + i * 7 + 5, none⟩ = some (.string xr.fn) ∧ wr.drew.cell? ⟨bb, o + i * 7 + 6, none⟩ = some sr := ⟨hX.c0, hX.c1, hX.c2, hX.c3, hX.c4, hX.c5, hX.c6⟩
      have hltb := hX.lt
      obtain ⟨la, lc, rfl, _⟩ := hX.al.slice
      obtain ⟨ra, rc, rfl, _⟩ := hX.ar.slice
      generalize xl.app (img bs) = ql at *
      generalize xr.app (img bs) = qr at *
      have i0' : (i : Int) < (l.length : Int) := by omega
      have i1' : (0 : Int) ≤ (i : Int) := by omega
      clear hX hX0 hI hx hs1 hs2
      obtain ⟨i0, hi0, hz0, hz1, hz2⟩ := info_parts Tryz.info40
      go_wp2
      go_region_law (first
        | (refine step_append_own _ rfl (.tmp 13) (.tmp 34) 24 rfl w.heap.size 40 i0 _ 7 104 Tryz.underlying24 hi0 hz0 hz1 hz2 rfl (by decide) (.slice pa ps.length pc) ps.length (flatL ps) rfl HR4.out ⟨W4.heap.size, 0, none⟩ 1 1 [.bool n, .int .i64 ql.v, .string ql.fn, .slice a3 ql.args.length c3', .int .i64 qr.v, .string qr.fn, .slice a4 qr.args.length c4'] rfl rfl (fun j y hj => by { rw [Addr.add_mid, Nat.zero_add, cell_of_row _ _ _ _ 40 (0, 0) (MapKept.heap_alloc W4 _).1]; simpa using hj }) (by { intro y hy; simp only [List.mem_cons, List.not_mem_nil, or_false] at hy; rcases hy with rfl | rfl | rfl | rfl | rfl | rfl | rfl <;> rfl }) (by unfold maxLen; omega) (by omega) (by { have := HB4.out.1.size; have := HId.out.bel.size; simp; omega }) ?_; intro v' w6 hrow6 hg6 hb6; obtain ⟨a6, c6', rfl⟩ := row_slice hrow6)
        | (go_simp; go_at_call 53; refine hcr.mono ?_; rintro _ W4 ⟨s4, rfl, hf4, hb4⟩; obtain ⟨a4, c4', rfl, _, _⟩ := hf4.args.slice; have HB4 : Hid (Below wr.drew.heap.size wr.drew W4 ∧ ArgsP (fun x => (Value.slice pa ps.length pc).ownBlock ≠ some x) W4 (.slice a3 ql.args.length c3') ql.args ∧ ArgsP (fun x => (Value.slice pa ps.length pc).ownBlock ≠ some x) W4 (.slice a4 qr.args.length c4') qr.args) := ⟨HB3.out.1.trans (hb4.mono HB3.out.1.size), HB3.out.2.keep hb4.size (fun k hk hk2 => ⟨hk, hb4.block k hk2⟩), hf4.keep (Nat.le_refl _) (fun k hk _ => ⟨fun e => (by have h8 := HV.out k e; have h9 := HB3.out.1.size; omega), rfl⟩)⟩; have HR4 : Hid ((W4.alloc (.cells #[.bool n, .int .i64 ql.v, .string ql.fn, .slice a3 ql.args.length c3', .int .i64 qr.v, .string qr.fn, .slice a4 qr.args.length c4'] 40)).ownsRow w.heap.size 40 7 (.slice pa ps.length pc) ps.length (flatL ps)) := ((HId.out.keep HB4.out.1).keep (below_box W4 _)).row; have g0 := kc hb4 hlt3 e0; clear hf4 hb4; go_simp)
        | (go_simp; go_at_call 53; refine hcl.mono ?_; rintro _ W3 ⟨s3, rfl, hf3, hb3⟩; obtain ⟨a3, c3', rfl, _, _⟩ := hf3.args.slice; have HB3 : Hid (Below wr.drew.heap.size wr.drew W3 ∧ ArgsP (fun x => (Value.slice pa ps.length pc).ownBlock ≠ some x) W3 (.slice a3 ql.args.length c3') ql.args) := ⟨hb3, hf3.keep (Nat.le_refl _) (fun k hk _ => ⟨fun e => (by have h8 := HV.out k e; omega), rfl⟩)⟩; have e0 := kc hb3 hltb c0; have e1 := kc hb3 hltb c1; have e2 := kc hb3 hltb c2; have e3 := kc hb3 hltb c3; have e4 := kc hb3 hltb c4; have e5 := kc hb3 hltb c5; have e6 := kc hb3 hltb c6; have hcr := HCR.out W3 (HId.out.bel.trans (hb3.mono HId.out.bel.size)); have hlt3 := Nat.lt_of_lt_of_le hltb hb3.size; clear hf3 hb3; go_simp))
      all_goals (
        have HE6 : Hid (PuI w ((l.take (i + 1)).map (appL (img bs))) (.slice a6 (ps.length + 1) c6') (ps ++ [(⟨n, ql, qr⟩, .slice a3 ql.args.length c3', .slice a4 qr.args.length c4')]) w6) := by
          show PuI _ _ _ _ _
          rw [HN.out]
          exact pu_end HId.out (⟨n, ql, qr⟩, .slice a3 ql.args.length c3', .slice a4 qr.args.length c4') W4 _ w6 HB4.out.1 (below_box W4 _) HB4.out.2.1 HB4.out.2.2 _ (by rw [show lcells (⟨n, ql, qr⟩, .slice a3 ql.args.length c3', .slice a4 qr.args.length c4') = [.bool n, .int .i64 ql.v, .string ql.fn, .slice a3 ql.args.length c3', .int .i64 qr.v, .string qr.fn, .slice a4 qr.args.length c4'] from rfl]; exact hrow6) hg6 hb6
        go_wp2
        go_roundw
        case rel => exact ⟨i + 1, by go_num, by omega, _, HE6.out⟩
        case measure => simp [intOf]; omega)
    · have hil : i = l.length := by omega
      subst hil
      have HF : Hid (ClauseAt wr (.slice pa ps.length pc) (l.map (appL (img bs))) ∧ Below w.heap.size w wr) := ⟨by have := hI.clause; rwa [List.take_length] at this, hI.bel⟩
      clear hI
      go_wp2
      go_ret
      exact ⟨_, rfl, HF.out⟩

end Go.Proofs.YtgnjgpplelakkaaGreat
