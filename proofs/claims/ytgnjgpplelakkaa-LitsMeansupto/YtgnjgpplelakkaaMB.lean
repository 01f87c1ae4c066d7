/-
  lits.Clean.
-/
import Derived.Test.YtgnjgpplelakkaaLH
import Derived.Test.YtgnjgpplelakkaaLS
import Derived.Test.YtgnjgpplelakkaaLU
namespace Go.Proofs.Ytgnjgpplelakkaa
open Go.RowKit Go.Maps Go.Shelf

/-- A literal and where the arguments of its sides lie. -/
abbrev Lp := Lt × Value × Value
abbrev lcells (p : Lp) : List Value := [.bool p.1.neg, .int .i64 p.1.l.v, .string p.1.l.fn, p.2.1, .int .i64 p.1.r.v, .string p.1.r.fn, p.2.2]
/-- The cells of a row of literals. -/
def flatL (ps : List Lp) : List Value := ps.flatMap lcells
theorem flatL_snoc (ps : List Lp) (p : Lp) : flatL (ps ++ [p]) = flatL ps ++ lcells p := by simp [flatL]
theorem flatL_get : ∀ (ps : List Lp) (i : Nat) (h : i < ps.length) (j : Nat), j < 7 → (flatL ps)[i * 7 + j]? = (lcells ps[i])[j]?
  | [], i, h, _, _ => absurd h (by simp)
  | p :: r, 0, _, j, hj => by
    have e : flatL (p :: r) = lcells p ++ flatL r := rfl
    rw [e, Nat.zero_mul, Nat.zero_add, List.getElem?_append_left (by simpa using hj)]
    rfl
  | p :: r, i + 1, h, j, hj => by
    have ih := flatL_get r i (by simpa using h) j hj
    have e : flatL (p :: r) = lcells p ++ flatL r := rfl
    rw [e, show (i + 1) * 7 + j = 7 + (i * 7 + j) by omega, List.getElem?_append_right (by simp)]
    simpa using ih

theorem clause_of_row {W : World} {base : Nat} {v : Value} {ps : List Lp} (h : W.ownsRow base 28 7 v ps.length (flatL ps)) (hsl : ∀ p ∈ ps, ArgsAt W p.2.1 p.1.l.args ∧ ArgsAt W p.2.2 p.1.r.args) : ClauseAt W v (ps.map (·.1)) := by
  rcases h.2 with ⟨e, hn⟩ | ⟨g, cap, cur, e, hb, hg, hcap, hmax, hsz, htk⟩
  · have : ps = [] := List.length_eq_zero_iff.1 hn
    subst this
    subst e
    exact ⟨none, 0, rfl, Nat.le_refl _, by decide, fun h => absurd h (by simp)⟩
  · subst e
    refine ⟨some ⟨g, 0, none⟩, cap, by simp, by simpa using hcap, by unfold maxLen at hmax; omega, fun _ => ⟨g, 0, rfl, fun i hi => ?_⟩⟩
    have hi' : i < ps.length := by simpa using hi
    have hlt : g < W.heap.size := (Array.getElem?_eq_some_iff.1 hg).1
    have look : ∀ j, j < 7 → W.cell? ⟨g, 0 + i * 7 + j, none⟩ = (lcells ps[i])[j]? := fun j hj => by
      rw [Nat.zero_add, cell_of_row _ _ _ _ 28 (0, 0) hg, ← flatL_get ps i hi' j hj, ← htk, List.getElem?_take_of_lt (by omega)]
      simp
    obtain ⟨h1, h2⟩ := hsl ps[i] (List.getElem_mem hi')
    simp only [List.getElem_map]
    exact ⟨ps[i].2.1, ps[i].2.2, hlt, look 0 (by omega), look 1 (by omega), look 2 (by omega), look 3 (by omega), look 4 (by omega), look 5 (by omega), look 6 (by omega), h1, h2⟩

theorem frP {n : Nat} {W : World} {sl : Value} {l : List T} (h : ArgsFr n W sl l) : ArgsP (fun x => n ≤ x) W sl l := by
  induction h with
  | mk a c l s hc hm at0 sub ih => exact .mk a c l s hc hm at0 ih

/-- One literal more, if it is to stay. -/
noncomputable def cstepL (out : List Lt) (x : Lt) : List Lt := if (x.neg && same x.l x.r) || out.any (fun y => lsame x y) then out else out ++ [x]
noncomputable def cclean (l : List Lt) : List Lt := l.foldl cstepL []
theorem cclean_succ (l : List Lt) (i : Nat) (h : i < l.length) : cclean (l.take (i + 1)) = cstepL (cclean (l.take i)) l[i] := by
  unfold cclean
  rw [List.take_succ_eq_append_getElem h, List.foldl_append]
  rfl
theorem cclean_len (l : List Lt) : (cclean l).length ≤ l.length := by
  have h : ∀ (l out : List Lt), (l.foldl cstepL out).length ≤ out.length + l.length := by
    intro l
    induction l with
    | nil => intro out; simp
    | cons x r ih =>
      intro out
      have h1 := ih (cstepL out x)
      have h2 : (cstepL out x).length ≤ out.length + 1 := by
        unfold cstepL
        split <;> simp
      simp only [List.foldl_cons, List.length_cons]
      omega
  have := h l []
  rw [List.length_nil, Nat.zero_add] at this
  exact this

theorem eg61 : ∀ args w, (callFunc 61 args).run Try.prog w = .ok (.enter 61 args) w := enters_of Try.func61 (by kernel_rfl) rfl

set_option maxRecDepth 100000 in
set_option maxHeartbeats 2000000 in
theorem again_any (W0 : World) (B : Nat) (x : Lt) (a b : Value) (hx : LitAt W0 B 0 x a b) : LPredAt W0 61 #[.pointer (some ⟨B, 0, none⟩)] (fun y => lsame x y) (fun _ => True) := by
  intro y s r W _ hW hs hr
  show Calls Try.prog 61 #[lval y s r, .pointer (some ⟨B, 0, none⟩)] W fun e W' => e = .returned (.bool (lsame x y)) ∧ Below W.heap.size W W'
  have hX := hx.keep hW
  have hY := lbox_at W y s r hs hr
  have hb := below_box W (lbox y s r)
  have hX1 := hX.keep hb
  have hss := lsame_any x y a b s r _ hX1.al hX1.ar hY.al hY.ar
  have HB : Hid (Below W.heap.size W (W.alloc (lbox y s r))) := hb
  obtain ⟨a0, a1, a2, a3, a4, a5, a6⟩ := hX1.zero
  obtain ⟨b0, b1, b2, b3, b4, b5, b6⟩ := hY.zero
  obtain ⟨_, _, rfl, _⟩ := hX.al.slice
  obtain ⟨_, _, rfl, _⟩ := hX.ar.slice
  obtain ⟨_, _, rfl, _⟩ := hs.slice
  obtain ⟨_, _, rfl, _⟩ := hr.slice
  clear hX hY hb hX1 hs hr hx hW
  generalize lsame x y = p at *
  go_enter Try.func61, Try.ntmps61
  go_wp2_with (first | (go_at_call 17; refine hss.mono ?_; rintro e w3 ⟨rfl, hb3⟩))
  go_ret
  exact ⟨rfl, HB.out.trans (hb3.mono HB.out.size)⟩

/-- What stands in Clean's loop. -/
structure ClI (w : World) (l : List Lt) (i : Nat) (v : Value) (ps : List Lp) (W : World) : Prop where
  args : ps.map (·.1) = cclean (l.take i)
  ok : ∀ p ∈ ps, ArgsP (fun x => w.heap.size ≤ x ∧ v.ownBlock ≠ some x) W p.2.1 p.1.l.args ∧ ArgsP (fun x => w.heap.size ≤ x ∧ v.ownBlock ≠ some x) W p.2.2 p.1.r.args
  row : W.ownsRow w.heap.size 28 7 v ps.length (flatL ps)
  bel : Below w.heap.size w W

theorem ClI.clause {w : World} {l : List Lt} {i : Nat} {v : Value} {ps : List Lp} {W : World} (h : ClI w l i v ps W) : ClauseAt W v (cclean (l.take i)) := by
  rw [← h.args]
  exact clause_of_row h.row fun p hp => ⟨(h.ok p hp).1.args, (h.ok p hp).2.args⟩

theorem ClI.keep {w : World} {l : List Lt} {i : Nat} {v : Value} {ps : List Lp} {W W' : World} (h : ClI w l i v ps W) (hb : Below W.heap.size W W') : ClI w l i v ps W' :=
  ⟨h.args, fun p hp => ⟨(h.ok p hp).1.keep hb.size (fun k hk hlt => ⟨hk, hb.block k hlt⟩), (h.ok p hp).2.keep hb.size (fun k hk hlt => ⟨hk, hb.block k hlt⟩)⟩, row_keep h.row (fun g hg => hb.block g (h.row.lt g hg).2), h.bel.trans (hb.mono h.bel.size)⟩

theorem cl_end {w : World} {l : List Lt} {i : Nat} {v : Value} {ps : List Lp} {wr : World} (h : ClI w l i v ps wr) (u : Lp) (hu : ps.map (·.1) ++ [u.1] = cclean (l.take (i + 1))) (W5 X w6 : World) (hX : Below wr.heap.size wr W5) (hX5 : Below W5.heap.size W5 X) (hA : ArgsP (fun x => wr.heap.size ≤ x) W5 u.2.1 u.1.l.args) (hA' : ArgsP (fun x => wr.heap.size ≤ x) W5 u.2.2 u.1.r.args) (v' : Value)
    (hown : w6.ownsRow w.heap.size 28 7 v' (ps.length + 1) (flatL ps ++ lcells u)) (hg : X.grownBy w6 v.ownBlock) (hat : v'.ownBlock = v.ownBlock ∨ v'.ownBlock = some X.heap.size) :
    ClI w l (i + 1) v' (ps ++ [u]) w6 := by
  have hXs := hX.size
  have hX5s := hX5.size
  have hgs := hg.size
  have hws := h.bel.size
  have hvl : ∀ g, v.ownBlock = some g → w.heap.size ≤ g ∧ g < wr.heap.size := fun g e => h.row.lt g e
  have kp5 : ∀ k, k < W5.heap.size → v.ownBlock ≠ some k → w6.heap[k]? = W5.heap[k]? := fun k hk hv => by
    rw [hg.block k (by omega) (fun e => hv e.symm), hX5.block k hk]
  have kp : ∀ k, k < wr.heap.size → v.ownBlock ≠ some k → w6.heap[k]? = wr.heap[k]? := fun k hk hv => by
    rw [kp5 k (by omega) hv, hX.block k hk]
  have hv'b : ∀ b, b < X.heap.size → v.ownBlock ≠ some b → v'.ownBlock ≠ some b := fun b hb hne => by
    rcases hat with e | e
    · rw [e]; exact hne
    · rw [e]; intro e2; have := Option.some.inj e2; omega
  have old : ∀ {s ls}, ArgsP (fun x => w.heap.size ≤ x ∧ v.ownBlock ≠ some x) wr s ls → ArgsP (fun x => w.heap.size ≤ x ∧ v'.ownBlock ≠ some x) w6 s ls := fun hh => hh.keep (by omega) (fun x ⟨hx, hne⟩ hlt => ⟨⟨hx, hv'b x (by omega) hne⟩, kp x hlt hne⟩)
  have new : ∀ {s ls}, ArgsP (fun x => wr.heap.size ≤ x) W5 s ls → ArgsP (fun x => w.heap.size ≤ x ∧ v'.ownBlock ≠ some x) w6 s ls := fun hh => hh.keep (by omega) (fun x hx hlt => by
    have hne : v.ownBlock ≠ some x := fun e => by have := hvl x e; omega
    exact ⟨⟨by omega, hv'b x (by omega) hne⟩, kp5 x hlt hne⟩)
  refine ⟨by rw [List.map_append]; exact hu, fun p hp => ?_, by rw [List.length_append, flatL_snoc]; exact hown, ?_⟩
  · rcases List.mem_append.1 hp with hp | hp
    · exact ⟨old (h.ok p hp).1, old (h.ok p hp).2⟩
    · simp at hp
      subst hp
      exact ⟨new hA, new hA'⟩
  · exact ⟨by rw [hg.os, hX5.os, hX.os, h.bel.os], by rw [hg.tape, hX5.tape, hX.tape, h.bel.tape], by rw [hg.output, hX5.output, hX.output, h.bel.output], by omega, fun j hj => (kp j (by omega) (fun e => by have := hvl j e; omega)).trans (h.bel.block j hj)⟩

set_option maxRecDepth 100000 in
set_option maxHeartbeats 4000000 in
theorem clean_any (l : List Lt) (v : Value) (w : World) (hl : ClauseAt w v l) (hs : csize l ≤ 1048576) :
    Calls Try.prog 28 #[v] w fun e W' => ∃ v', e = .returned v' ∧ ClauseAt W' v' (cclean l) ∧ Below w.heap.size w W' := by
  obtain ⟨a, c, rfl⟩ := hl.slice
  have hlen : l.length ≤ 1048576 := by have := csize_len l; omega
  have HS : Hid (∀ i (h : i < l.length), l[i].l.size ≤ 1048576 ∧ l[i].r.size ≤ 1048576) := fun i h => by
    obtain ⟨h1, h2, h3, h4⟩ := csize_at l i h
    exact ⟨by omega, by omega⟩
  have HL : Hid (ClauseAt w (.slice a l.length c) l) := hl
  clear hl hs
  go_enter Try.func28, Try.ntmps28
  go_wp2
  go_loopw [3, 10] (fun vo vi wr => ∃ i : Nat, vi = .int .i64 i ∧ i ≤ l.length ∧ ∃ ps, ClI w l i vo ps wr) (fun _ vi _ => l.length - (intOf vi).toNat)
  case atStart => exact ⟨0, rfl, Nat.zero_le _, [], rfl, fun p hp => absurd hp (by simp), World.ownsRow_nil _ _ _ _, Below.refl _ _⟩
  case round =>
    obtain ⟨i, rfl, hi, ps, hI⟩ := hrel
    obtain ⟨pa, pc, hvo⟩ := row_slice hI.row
    subst hvo
    by_cases hlt : i < l.length
    · obtain ⟨bb, o, sl, sr, e1, hX0⟩ := HL.out.nth hlt
      cases e1
      have hX := hX0.keep hI.bel
      have hcs := cclean_succ l i hlt
      obtain ⟨hs1, hs2⟩ := HS.out i hlt
      have hpl : ps.length ≤ i := by
        have h1 := congrArg List.length hI.args
        rw [List.length_map] at h1
        have h2 := cclean_len (l.take i)
        rw [List.length_take] at h2
        omega
      obtain ⟨x, hx⟩ : ∃ x, l[i] = x := ⟨_, rfl⟩
      simp only [hx] at hX hcs hs1 hs2
      obtain ⟨n, xl, xr⟩ := x
      simp only at hX hcs hs1 hs2
      have hb1 := below_box wr (lbox ⟨n, xl, xr⟩ sl sr)
      have hL1 := lbox_at wr ⟨n, xl, xr⟩ sl sr hX.al hX.ar
      have hI1 := hI.keep hb1
      have hone := oneSide_any ⟨n, xl, xr⟩ sl sr _ hL1.al hL1.ar
      have hcon : ∀ W', Below (wr.alloc (lbox ⟨n, xl, xr⟩ sl sr)).heap.size (wr.alloc (lbox ⟨n, xl, xr⟩ sl sr)) W' → Calls Try.prog 63 #[.slice pa ps.length pc, .func (.func 61) #[] #[.pointer (some ⟨wr.heap.size, 0, none⟩)]] W' fun e W'' => e = .returned (.bool ((cclean (l.take i)).any fun y => lsame ⟨n, xl, xr⟩ y)) ∧ Below W'.heap.size W' W'' := fun W' hW' => contains_any (wr.alloc (lbox ⟨n, xl, xr⟩ sl sr)) 61 _ _ _ eg61 (again_any _ _ ⟨n, xl, xr⟩ sl sr hL1) _ (fun _ _ => trivial) _ W' hW' (hI1.keep hW').clause
      obtain ⟨c0, c1, c2, c3, c4, c5, c6⟩ : wr.cell? ⟨bb, o + i * 7, none⟩ = some (.bool n) ∧ wr.cell? ⟨bb, o + i * 7 + 1, none⟩ = some (.int .i64 xl.v) ∧ wr.cell? ⟨bb, o + i * 7 + 2, none⟩ = some (.string xl.fn) ∧ wr.cell? ⟨bb, o + i * 7 + 3, none⟩ = some sl ∧ wr.cell? ⟨bb, o + i * 7 + 4, none⟩ = some (.int .i64 xr.v) ∧ wr.cell? ⟨bb, o + i * 7 + 5, none⟩ = some (.string xr.fn) ∧ wr.cell? ⟨bb, o + i * 7 + 6, none⟩ = some sr := ⟨hX.c0, hX.c1, hX.c2, hX.c3, hX.c4, hX.c5, hX.c6⟩
      obtain ⟨k0, k1, k2, k3, k4, k5, k6⟩ := hL1.zero
      have HL1 : Hid (LitAt (wr.alloc (lbox ⟨n, xl, xr⟩ sl sr)) wr.heap.size 0 ⟨n, xl, xr⟩ sl sr) := hL1
      obtain ⟨la, lc, rfl, _⟩ := hX.al.slice
      obtain ⟨ra, rc, rfl, _⟩ := hX.ar.slice
      have HI1 : Hid (ClI w l i (.slice pa ps.length pc) ps (wr.alloc (lbox ⟨n, xl, xr⟩ (.slice la xl.args.length lc) (.slice ra xr.args.length rc)))) := hI1
      have HCS : Hid (cclean (l.take (i + 1)) = cstepL (cclean (l.take i)) ⟨n, xl, xr⟩) := hcs
      have HAR : Hid (ps.map (·.1) = cclean (l.take i)) := hI.args
      have i0' : (i : Int) < (l.length : Int) := by omega
      have i1' : (0 : Int) ≤ (i : Int) := by omega
      clear hX hX0 hL1 hI hI1 hb1 hx hcs
      have HE : Hid (cstepL (cclean (l.take i)) ⟨n, xl, xr⟩ = if (n && same xl xr) || (cclean (l.take i)).any (fun y => lsame ⟨n, xl, xr⟩ y) then cclean (l.take i) else cclean (l.take i) ++ [⟨n, xl, xr⟩]) := rfl
      generalize hp : same xl xr = p at *
      generalize hq : (cclean (l.take i)).any (fun y => lsame ⟨n, xl, xr⟩ y) = q at *
      clear hp hq
      have HST : Hid ((n && p || q) = true → ClI w l (i + 1) (.slice pa ps.length pc) ps (wr.alloc (lbox ⟨n, xl, xr⟩ (.slice la xl.args.length lc) (.slice ra xr.args.length rc)))) := fun h => ⟨by rw [HCS.out, HE.out, if_pos h]; exact HAR.out, HI1.out.ok, HI1.out.row, HI1.out.bel⟩
      have HAP : Hid ((n && p || q) = false → ps.map (·.1) ++ [⟨n, xl, xr⟩] = cclean (l.take (i + 1))) := fun h => by rw [HCS.out, HE.out, h, HAR.out]; rfl
      clear HCS HE HAR
      cases n
      · cases q
        · -- stays
          obtain ⟨i0, hi0, hz0, hz1, hz2⟩ := info_parts Try.info28
          go_wp2_with (first
            | (go_at_call 63; refine (hcon _ (Below.refl _ _)).mono ?_; rintro e W2 ⟨rfl, H2⟩))
          have HB2 : Hid (Below (wr.alloc (lbox ⟨false, xl, xr⟩ (.slice la xl.args.length lc) (.slice ra xr.args.length rc))).heap.size (wr.alloc (lbox ⟨false, xl, xr⟩ (.slice la xl.args.length lc) (.slice ra xr.args.length rc))) W2) := H2
          have HLd := HL1.out.keep HB2.out
          obtain ⟨d0, d1, d2, d3, d4, d5, d6⟩ := (HLd.keep (Below.refl _ W2).drew).zero
          have HId : Hid (ClI w l i (.slice pa ps.length pc) ps W2.drew) := (HI1.out.keep HB2.out).keep (Below.refl _ W2).drew
          have hcl := copied_any xl _ W2.drew (HLd.keep (Below.refl _ W2).drew).al hs1
          have HLH : Hid (LitAt W2.drew wr.heap.size 0 ⟨false, xl, xr⟩ (.slice la xl.args.length lc) (.slice ra xr.args.length rc)) := HLd.keep (Below.refl _ W2).drew
          clear HLd hone hcon H2
          go_region_law (first
            | (refine step_append_own _ rfl (.tmp 29) (.tmp 39) 23 rfl w.heap.size 28 i0 _ 7 104 Try.underlying23 hi0 hz0 hz1 hz2 rfl (by decide) (.slice pa ps.length pc) ps.length (flatL ps) rfl HR4.out ⟨W4.heap.size, 0, none⟩ 1 1 [.bool false, .int .i64 xl.v, .string xl.fn, .slice a3 xl.args.length c3, .int .i64 xr.v, .string xr.fn, .slice a4 xr.args.length c4] rfl rfl (fun j y hj => by { rw [Addr.add_mid, Nat.zero_add, cell_of_row _ _ _ _ 28 (0, 0) (MapKept.heap_alloc W4 _).1]; simpa using hj }) (by { intro y hy; simp only [List.mem_cons, List.not_mem_nil, or_false] at hy; rcases hy with rfl | rfl | rfl | rfl | rfl | rfl | rfl <;> rfl }) (by unfold maxLen; omega) (by omega) (by { have := HB4.out.1.size; have := HId.out.bel.size; simp; omega }) ?_; intro v' w6 hrow6 hg6 hb6; obtain ⟨a6, c6, rfl⟩ := row_slice hrow6)
            | (go_simp; go_at_call 52; refine hcr.mono ?_; rintro _ W4 ⟨s4, rfl, hf4, hb4⟩; obtain ⟨a4, c4, rfl⟩ := hf4.slice; have HB4 : Hid (Below W2.drew.heap.size W2.drew W4 ∧ ArgsP (fun y => W2.drew.heap.size ≤ y) W4 (.slice a3 xl.args.length c3) xl.args ∧ ArgsP (fun y => W2.drew.heap.size ≤ y) W4 (.slice a4 xr.args.length c4) xr.args) := ⟨HB3.out.1.trans (hb4.mono HB3.out.1.size), HB3.out.2.keep hb4.size (fun k hk hk2 => ⟨hk, hb4.block k hk2⟩), (frP hf4).keep (Nat.le_refl _) (fun k hk _ => ⟨Nat.le_trans HB3.out.1.size hk, rfl⟩)⟩; have HR4 : Hid ((W4.alloc (.cells #[.bool false, .int .i64 xl.v, .string xl.fn, .slice a3 xl.args.length c3, .int .i64 xr.v, .string xr.fn, .slice a4 xr.args.length c4] 28)).ownsRow w.heap.size 28 7 (.slice pa ps.length pc) ps.length (flatL ps)) := ((HId.out.keep HB4.out.1).keep (below_box W4 _)).row; have g0 := kc hb4 hlt3 e0; clear hf4 hb4; go_simp)
            | (go_simp; go_at_call 52; refine hcl.mono ?_; rintro _ W3 ⟨s3, rfl, hf3, hb3⟩; obtain ⟨a3, c3, rfl⟩ := hf3.slice; have HB3 : Hid (Below W2.drew.heap.size W2.drew W3 ∧ ArgsP (fun y => W2.drew.heap.size ≤ y) W3 (.slice a3 xl.args.length c3) xl.args) := ⟨hb3, frP hf3⟩; have hL3 := HLH.out.keep hb3; obtain ⟨e0, e1, e2, e3, e4, e5, e6⟩ := hL3.zero; have hcr := copied_any xr _ W3 hL3.ar hs2; have hlt3 := hL3.lt; clear hf3 hb3 hL3; go_simp))
          all_goals (
            have HE6 : Hid (ClI w l (i + 1) (.slice a6 (ps.length + 1) c6) (ps ++ [(⟨false, xl, xr⟩, .slice a3 xl.args.length c3, .slice a4 xr.args.length c4)]) w6) := cl_end HId.out (⟨false, xl, xr⟩, .slice a3 xl.args.length c3, .slice a4 xr.args.length c4) (HAP.out (by simp)) W4 _ w6 HB4.out.1 (below_box W4 _) HB4.out.2.1 HB4.out.2.2 _ (by rw [show lcells (⟨false, xl, xr⟩, .slice a3 xl.args.length c3, .slice a4 xr.args.length c4) = [.bool false, .int .i64 xl.v, .string xl.fn, .slice a3 xl.args.length c3, .int .i64 xr.v, .string xr.fn, .slice a4 xr.args.length c4] from rfl]; exact hrow6) hg6 hb6
            go_wp2
            go_roundw
            case rel => exact ⟨i + 1, by go_num, by omega, _, HE6.out⟩
            case measure => simp [intOf]; omega)
        · -- stands already
          go_wp2_with (first
            | (go_at_call 63; refine (hcon _ (Below.refl _ _)).mono ?_; rintro e W2 ⟨rfl, H2⟩))
          go_roundw
          case rel => exact ⟨i + 1, by go_num, by omega, ps, (HST.out (by simp)).keep H2⟩
          case measure => simp [intOf]; omega
      · cases p
        · cases q
          · -- stays
            obtain ⟨i0, hi0, hz0, hz1, hz2⟩ := info_parts Try.info28
            go_wp2_with (first
              | (go_at_call 63; refine (hcon _ HB1.out).mono ?_; rintro e W2 ⟨rfl, H2⟩)
              | (go_at_call 62; refine hone.mono ?_; rintro e W1 ⟨rfl, H1⟩; have m0 := kc H1 (by simp) k0; have m1 := kc H1 (by simp) k1; have m2 := kc H1 (by simp) k2; have m3 := kc H1 (by simp) k3; have m4 := kc H1 (by simp) k4; have m5 := kc H1 (by simp) k5; have m6 := kc H1 (by simp) k6; have HB1 : Hid (Below (wr.alloc (lbox ⟨true, xl, xr⟩ (.slice la xl.args.length lc) (.slice ra xr.args.length rc))).heap.size (wr.alloc (lbox ⟨true, xl, xr⟩ (.slice la xl.args.length lc) (.slice ra xr.args.length rc))) W1) := H1))
            have HB2 : Hid (Below (wr.alloc (lbox ⟨true, xl, xr⟩ (.slice la xl.args.length lc) (.slice ra xr.args.length rc))).heap.size (wr.alloc (lbox ⟨true, xl, xr⟩ (.slice la xl.args.length lc) (.slice ra xr.args.length rc))) W2) := H1.trans (H2.mono H1.size)
            have HLd := HL1.out.keep HB2.out
            obtain ⟨d0, d1, d2, d3, d4, d5, d6⟩ := (HLd.keep (Below.refl _ W2).drew).zero
            have HId : Hid (ClI w l i (.slice pa ps.length pc) ps W2.drew) := (HI1.out.keep HB2.out).keep (Below.refl _ W2).drew
            have hcl := copied_any xl _ W2.drew (HLd.keep (Below.refl _ W2).drew).al hs1
            have HLH : Hid (LitAt W2.drew wr.heap.size 0 ⟨true, xl, xr⟩ (.slice la xl.args.length lc) (.slice ra xr.args.length rc)) := HLd.keep (Below.refl _ W2).drew
            clear HLd hone hcon H1 H2
            go_region_law (first
              | (refine step_append_own _ rfl (.tmp 29) (.tmp 39) 23 rfl w.heap.size 28 i0 _ 7 104 Try.underlying23 hi0 hz0 hz1 hz2 rfl (by decide) (.slice pa ps.length pc) ps.length (flatL ps) rfl HR4.out ⟨W4.heap.size, 0, none⟩ 1 1 [.bool true, .int .i64 xl.v, .string xl.fn, .slice a3 xl.args.length c3, .int .i64 xr.v, .string xr.fn, .slice a4 xr.args.length c4] rfl rfl (fun j y hj => by { rw [Addr.add_mid, Nat.zero_add, cell_of_row _ _ _ _ 28 (0, 0) (MapKept.heap_alloc W4 _).1]; simpa using hj }) (by { intro y hy; simp only [List.mem_cons, List.not_mem_nil, or_false] at hy; rcases hy with rfl | rfl | rfl | rfl | rfl | rfl | rfl <;> rfl }) (by unfold maxLen; omega) (by omega) (by { have := HB4.out.1.size; have := HId.out.bel.size; simp; omega }) ?_; intro v' w6 hrow6 hg6 hb6; obtain ⟨a6, c6, rfl⟩ := row_slice hrow6)
              | (go_simp; go_at_call 52; refine hcr.mono ?_; rintro _ W4 ⟨s4, rfl, hf4, hb4⟩; obtain ⟨a4, c4, rfl⟩ := hf4.slice; have HB4 : Hid (Below W2.drew.heap.size W2.drew W4 ∧ ArgsP (fun y => W2.drew.heap.size ≤ y) W4 (.slice a3 xl.args.length c3) xl.args ∧ ArgsP (fun y => W2.drew.heap.size ≤ y) W4 (.slice a4 xr.args.length c4) xr.args) := ⟨HB3.out.1.trans (hb4.mono HB3.out.1.size), HB3.out.2.keep hb4.size (fun k hk hk2 => ⟨hk, hb4.block k hk2⟩), (frP hf4).keep (Nat.le_refl _) (fun k hk _ => ⟨Nat.le_trans HB3.out.1.size hk, rfl⟩)⟩; have HR4 : Hid ((W4.alloc (.cells #[.bool true, .int .i64 xl.v, .string xl.fn, .slice a3 xl.args.length c3, .int .i64 xr.v, .string xr.fn, .slice a4 xr.args.length c4] 28)).ownsRow w.heap.size 28 7 (.slice pa ps.length pc) ps.length (flatL ps)) := ((HId.out.keep HB4.out.1).keep (below_box W4 _)).row; have g0 := kc hb4 hlt3 e0; clear hf4 hb4; go_simp)
              | (go_simp; go_at_call 52; refine hcl.mono ?_; rintro _ W3 ⟨s3, rfl, hf3, hb3⟩; obtain ⟨a3, c3, rfl⟩ := hf3.slice; have HB3 : Hid (Below W2.drew.heap.size W2.drew W3 ∧ ArgsP (fun y => W2.drew.heap.size ≤ y) W3 (.slice a3 xl.args.length c3) xl.args) := ⟨hb3, frP hf3⟩; have hL3 := HLH.out.keep hb3; obtain ⟨e0, e1, e2, e3, e4, e5, e6⟩ := hL3.zero; have hcr := copied_any xr _ W3 hL3.ar hs2; have hlt3 := hL3.lt; clear hf3 hb3 hL3; go_simp))
            all_goals (
              have HE6 : Hid (ClI w l (i + 1) (.slice a6 (ps.length + 1) c6) (ps ++ [(⟨true, xl, xr⟩, .slice a3 xl.args.length c3, .slice a4 xr.args.length c4)]) w6) := cl_end HId.out (⟨true, xl, xr⟩, .slice a3 xl.args.length c3, .slice a4 xr.args.length c4) (HAP.out (by simp)) W4 _ w6 HB4.out.1 (below_box W4 _) HB4.out.2.1 HB4.out.2.2 _ (by rw [show lcells (⟨true, xl, xr⟩, .slice a3 xl.args.length c3, .slice a4 xr.args.length c4) = [.bool true, .int .i64 xl.v, .string xl.fn, .slice a3 xl.args.length c3, .int .i64 xr.v, .string xr.fn, .slice a4 xr.args.length c4] from rfl]; exact hrow6) hg6 hb6
              go_wp2
              go_roundw
              case rel => exact ⟨i + 1, by go_num, by omega, _, HE6.out⟩
              case measure => simp [intOf]; omega)
          · -- stands already
            go_wp2_with (first
              | (go_at_call 63; refine (hcon _ HB1.out).mono ?_; rintro e W2 ⟨rfl, H2⟩)
              | (go_at_call 62; refine hone.mono ?_; rintro e W1 ⟨rfl, H1⟩; have m0 := kc H1 (by simp) k0; have m1 := kc H1 (by simp) k1; have m2 := kc H1 (by simp) k2; have m3 := kc H1 (by simp) k3; have m4 := kc H1 (by simp) k4; have m5 := kc H1 (by simp) k5; have m6 := kc H1 (by simp) k6; have HB1 : Hid (Below (wr.alloc (lbox ⟨true, xl, xr⟩ (.slice la xl.args.length lc) (.slice ra xr.args.length rc))).heap.size (wr.alloc (lbox ⟨true, xl, xr⟩ (.slice la xl.args.length lc) (.slice ra xr.args.length rc))) W1) := H1))
            go_roundw
            case rel => exact ⟨i + 1, by go_num, by omega, ps, (HST.out (by simp)).keep (H1.trans (H2.mono H1.size))⟩
            case measure => simp [intOf]; omega
        · -- never holds
          go_wp2_with (first
            | (go_at_call 62; refine hone.mono ?_; rintro e W1 ⟨rfl, H1⟩; have m0 := kc H1 (by simp) k0; have m1 := kc H1 (by simp) k1; have m2 := kc H1 (by simp) k2; have m3 := kc H1 (by simp) k3; have m4 := kc H1 (by simp) k4; have m5 := kc H1 (by simp) k5; have m6 := kc H1 (by simp) k6; have HB1 : Hid (Below (wr.alloc (lbox ⟨true, xl, xr⟩ (.slice la xl.args.length lc) (.slice ra xr.args.length rc))).heap.size (wr.alloc (lbox ⟨true, xl, xr⟩ (.slice la xl.args.length lc) (.slice ra xr.args.length rc))) W1) := H1))
          go_roundw
          case rel => exact ⟨i + 1, by go_num, by omega, ps, (HST.out (by simp)).keep H1⟩
          case measure => simp [intOf]; omega
    · have hil : i = l.length := by omega
      subst hil
      have HF : Hid (ClauseAt wr (.slice pa ps.length pc) (cclean l) ∧ Below w.heap.size w wr) := ⟨by have := hI.clause; rwa [List.take_length] at this, hI.bel⟩
      clear hI
      go_wp2
      go_ret
      exact ⟨_, rfl, HF.out⟩

end Go.Proofs.Ytgnjgpplelakkaa
