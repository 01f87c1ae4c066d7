import Derived.Test.YtgnjgpplelakkaaNR
import Derived.Test.YtgnjgpplelakkaaNO
import Derived.Test.YtgnjgpplelakkaaME
import Derived.Maps.AppendAt
import Derived.Laws.OwnMore
import Derived.Test.YtgnjgpplelakkaaMA
import Derived.Test.YtgnjgpplelakkaaLB

/-
  lits.Vars.
-/
namespace Go.Proofs.Ytgnjgpplelakkaa
open Go.RowKit Go.Shelf

attribute [local go_sem] Oper.semAt_some

/-- 'append' of one row of numbers to another. -/
theorem run_append_rows (w : World) (base b2 : Nat) (ty : TypeId) (v x : Value) (n m : Nat) (xs news : List Value) (h1 : w.ownsRow base 3 1 v n xs) (h2 : w.ownsRow b2 3 1 x m news) (hnews : ∀ u ∈ news, u.oneCell' = true) (hn : n + m ≤ 2097152) (hb : base ≤ w.heap.size) :
    ∃ v' w', (Builtin.append_ #[33, 33] ty #[v, x]).run Try.prog w = .ok v' w' ∧ w'.ownsRow base 3 1 v' (n + m) (xs ++ news) ∧ w.grownBy w' v.ownBlock ∧ (v'.ownBlock = v.ownBlock ∨ v'.ownBlock = some w.heap.size) := by
  obtain ⟨i0, hi, hz0, hz1, hz2⟩ := info_parts Try.info3
  have hl := h2.1
  rcases h2.2 with ⟨rfl, rfl⟩ | ⟨g, cap, cur, rfl, hbg, hg, _⟩
  · have e : news = [] := List.eq_nil_of_length_eq_zero (by omega)
    subst e
    exact ⟨v, w, run_append_owned_none w base 33 ty 3 i0 1 Try.underlying33 hi v n xs h1, by simpa using h1, ⟨rfl, rfl, rfl, Nat.le_refl _, fun _ _ _ => rfl⟩, .inl rfl⟩
  · obtain ⟨v', w', hr, a1, a2, _, a3⟩ := run_append_own_at (P := Try.prog) w base 33 ty 3 i0 (.int .i64 0) 1 8 Try.underlying33 hi hz0 hz1 hz2 rfl (by decide) v n xs h1 ⟨g, 0, none⟩ m cap news hl (h2.cells rfl) hnews (by unfold maxLen; omega) (by omega) hb
    exact ⟨v', w', hr, a1, a2, a3⟩

/-- 'append' as one step of a region that draws its order, in a round. -/
theorem stepIn_run {F : Fence} {nF : Nat} (w : World) {ops : Array Oper} {o : Oper} {a : Act} {K : Act → World → Prop} {Q : Exit → Act → World → Prop} {X : Prop} (hgd : o.guard = none) (s x : Operand) (t : TypeId)
    (ho : o.op = .call { callee := .builtin .append, args := #[s, x], argTypes := #[t, t] }) (v u : Value) (hs : a.eval s = v) (hx : a.eval x = u) (v' : Value) (w' : World) (hr : (Builtin.append_ #[t, t] o.type #[v, u]).run Try.prog w = .ok v' w') (h : K (a.put o.dst v') w') :
    if Region.wanted o (yielded ops a.tmps) = true then Oper.wpIn F nF Try.prog o a w K Q else X := by
  rw [if_pos (by simp [Region.wanted, hgd])]
  unfold Oper.wpIn
  refine ⟨by simp [Oper.about, ho, resolve, Target.leads, Sem.run_pure], ?_⟩
  rw [Oper.semAt_plain F _ _ (by rw [ho]; intro c hc'; cases hc')]
  simp [execOp, ho, resolve, invoke, builtin, hs, hx, hr, Result.andThen]
  exact h

/-- What a loop over terms collects in a list whose slice lies in one box. -/
structure RInvT (w : World) (B : Nat) (rel : List T → List Value → Prop) (E : List Nat) (pre : List T) (v : Value) (cs : List Value) (W : World) : Prop where
  box : Boxed W B 33 v
  row : W.ownsRow w.heap.size 3 1 v cs.length cs
  say : rel pre cs
  out : B ∉ E
  mine : ∀ g, v.ownBlock = some g → g ∉ E
  low : ∀ r ∈ E, w.heap.size ≤ r ∧ r < W.heap.size
  bel : Below w.heap.size w W

abbrev RInvTE (w : World) (B : Nat) (rel : List T → List Value → Prop) (E : List Nat) (pre : List T) (W : World) : Prop := ∃ v cs, RInvT w B rel E pre v cs W

section
variable {w : World} {B : Nat} {rel : List T → List Value → Prop}

theorem RInvT.abide : Abide (RInvTE w B rel) := by
  rintro E E' s W W' row ⟨v, cs, h⟩ hg hr hE
  have hlt := h.box.lt
  refine ⟨v, cs, h.box.kept hg (fun e => h.out (hr B e.symm)), h.row.kept hg ?_, h.say, fun hb => ?_, fun g hgv hge => ?_, fun r hr' => ?_, h.bel.trans ⟨hg.os, hg.tape, hg.output, hg.size, fun k hk => hg.block k (Nat.lt_of_lt_of_le hk h.bel.size) (fun e => by have := h.low k (hr k e.symm); omega)⟩⟩
  · cases ho : v.ownBlock with
    | none => exact .inl rfl
    | some g => exact .inr fun e => h.mine g ho (hr g e.symm)
  · rcases hE B hb with hb | hb
    · exact h.out hb
    · omega
  · have := (h.row.lt g hgv).2
    rcases hE g hge with h' | h'
    · exact h.mine g hgv h'
    · omega
  · rcases hE r hr' with h' | h'
    · exact ⟨(h.low r h').1, Nat.lt_of_lt_of_le (h.low r h').2 hg.size⟩
    · exact ⟨Nat.le_trans h.bel.size h'.1, h'.2⟩

variable {E : List Nat} {pre : List T} {v : Value} {cs : List Value} {W W' : World}

theorem RInvT.grow (h : RInvT w B rel E pre v cs W) (hb : Below W.heap.size W W') : Kept w.heap.size E W W' ∧ RInvT w B rel E pre v cs W' := by
  have hg : W.grownBy W' none := ⟨hb.os, hb.tape, hb.output, hb.size, fun k hk _ => hb.block k hk⟩
  exact ⟨⟨hb.mono h.bel.size, fun r hr => hb.block r (h.low r hr).2⟩, ⟨(hb.block B h.box.lt).trans h.box, h.row.kept hg (by cases v.ownBlock <;> simp), h.say, h.out, h.mine, fun r hr => ⟨(h.low r hr).1, Nat.lt_of_lt_of_le (h.low r hr).2 hb.size⟩, h.bel.trans (hb.mono h.bel.size)⟩⟩

/-- Behind an append and the store of what it gave. -/
theorem RInvT.push (h : RInvT w B rel E pre v cs W) (hB : w.heap.size ≤ B) (m : Nat) (news : List Value) (v' : Value) (w1 : World) (hown : w1.ownsRow w.heap.size 3 1 v' (cs.length + m) (cs ++ news)) (hg : W.grownBy w1 v.ownBlock) (hat : v'.ownBlock = v.ownBlock ∨ v'.ownBlock = some W.heap.size) (pre' : List T) (hs : rel pre' (cs ++ news)) :
    (w1.cell? ⟨B, 0, none⟩ = some v ∧ w1.frozen? ⟨B, 0, none⟩ = false) ∧ Kept w.heap.size E W (w1.setCell ⟨B, 0, none⟩ v') ∧ RInvT w B rel E pre' v' (cs ++ news) (w1.setCell ⟨B, 0, none⟩ v') := by
  have hte : (33 : TypeId) ≠ 3 := by decide
  have hnb := h.box.not_row hte h.row
  have p1 := h.box.kept hg hnb
  have g2 := grownBy_setCell' w1 B v'
  have b1 : Below w.heap.size W w1 := ⟨hg.os, hg.tape, hg.output, hg.size, fun i hi => hg.block i (Nat.lt_of_lt_of_le hi h.bel.size) fun e => by
    have := (h.row.lt i e.symm).1
    omega⟩
  have b2 : Below w.heap.size w1 (w1.setCell ⟨B, 0, none⟩ v') := (Below.refl _ _).setCell (p := ⟨B, 0, none⟩) hB _
  have hne : v'.ownBlock = none ∨ v'.ownBlock ≠ some B := .inr fun e => p1.not_row hte hown e.symm
  have hlen : (cs ++ news).length = cs.length + m := by have := hown.1; omega
  refine ⟨⟨p1.cell, p1.frozen⟩, ⟨b1.trans b2, fun r hr => ?_⟩, ⟨p1.set v', ?_, hs, h.out, fun g hgv hge => ?_, fun r hr => ⟨(h.low r hr).1, ?_⟩, h.bel.trans (b1.trans b2)⟩⟩
  · have hlt := (h.low r hr).2
    have e1 : w1.heap[r]? = W.heap[r]? := hg.block r hlt (fun e => h.mine r e.symm hr)
    exact (g2.block r (Nat.lt_of_lt_of_le hlt hg.size) (fun e => h.out (Option.some.inj e ▸ hr))).trans e1
  · rw [hlen]
    exact hown.kept g2 hne
  · rcases hat with h1 | h1
    · exact h.mine g (h1 ▸ hgv) hge
    · rw [h1] at hgv
      cases hgv
      have := (h.low _ hge).2
      omega
  · have := (h.low r hr).2
    have := hg.size
    have := g2.size
    omega
end

/-- What the sides' own lists make, one behind the other. -/
def svs (ss : List T) : List Int := (ss.map fun t => t.vs.foldl wth []).flatten
theorem svs_snoc (ss : List T) (t : T) : svs (ss ++ [t]) = svs ss ++ t.vs.foldl wth [] := by simp [svs]
theorem svs_append (a b : List T) : svs (a ++ b) = svs a ++ svs b := by simp [svs]
theorem svs_len : ∀ (ss : List T), (svs ss).length ≤ ((ss.map T.vs).flatten).length
  | [] => Nat.le_refl _
  | t :: r => by
    have h1 := svs_len r
    have h2 := wths_len t.vs []
    have e : svs (t :: r) = t.vs.foldl wth [] ++ svs r := by simp [svs]
    rw [e]
    simp only [List.map_cons, List.flatten_cons, List.length_append, List.length_nil] at h2 ⊢
    omega
theorem mem_wths (l : List Int) (z : Int) : z ∈ l.foldl wth [] ↔ z ∈ l := by
  obtain ⟨_, k2⟩ := wths_rise l [] List.Pairwise.nil
  rw [k2 z]
  simp
theorem svs_wth (ss : List T) : (svs ss).foldl wth [] = ((ss.map T.vs).flatten).foldl wth [] := by
  obtain ⟨k1, _⟩ := wths_rise (svs ss) [] List.Pairwise.nil
  obtain ⟨k2, _⟩ := wths_rise ((ss.map T.vs).flatten) [] List.Pairwise.nil
  refine rise_eq _ _ k1 k2 fun z => ?_
  rw [mem_wths, mem_wths]
  unfold svs
  simp only [List.mem_flatten, List.mem_map]
  constructor
  · rintro ⟨_, ⟨t, ht, rfl⟩, hz⟩
    exact ⟨_, ⟨t, ht, rfl⟩, (mem_wths _ _).1 hz⟩
  · rintro ⟨_, ⟨t, ht, rfl⟩, hz⟩
    exact ⟨_, ⟨t, ht, rfl⟩, (mem_wths _ _).2 hz⟩

def SRel (pre : List T) (cs : List Value) : Prop := cs = (svs pre).map (Value.int .i64)

set_option maxRecDepth 100000 in
set_option maxHeartbeats 4000000 in
theorem lvars_any (l : List Lt) (v : Value) (w : World) (hc : ClauseAt w v l) (hsh : ∀ t ∈ sidesOf l, Short t ∧ (t.parts []).length ≤ 1048576) (hN : (cvs l).length ≤ 1048576) :
    Calls Try.prog 13 #[v] w fun e w' => ∃ v' k, e = .returned v' ∧ w'.ownsRow w.heap.size 3 1 v' k (((cvs l).foldl wth []).map (Value.int .i64)) ∧ Below w.heap.size w w' := by
  refine (callsIn_wide (n := 9)).1 ?_
  obtain ⟨a, c, rfl⟩ := hc.slice
  obtain ⟨W0, hW0⟩ : ∃ W0, (w.alloc (.cells #[.slice none 0 0] 33)).alloc (.cells #[.slice a l.length c] 23) = W0 := ⟨_, rfl⟩
  have hsz : W0.heap.size = w.heap.size + 2 := by rw [← hW0]; simp
  have hbel : Below w.heap.size w W0 := by rw [← hW0]; exact below_box2 w _ _
  have hB0 : Boxed W0 w.heap.size 33 (.slice none 0 0) := by
    have := (Boxed.new w 33 (.slice none 0 0)).alloc (.cells #[.slice a l.length c] 23)
    rw [← hW0]
    exact this
  have hB1 : W0.cell? ⟨w.heap.size + 1, 0, none⟩ = some (.slice a l.length c) := by
    have := (MapKept.heap_alloc (w.alloc (.cells #[.slice none 0 0] 33)) (.cells #[.slice a l.length c] 23)).1
    rw [World.size_alloc] at this
    rw [← hW0]
    simp only [World.cell?]
    rw [this]
    rfl
  refine callsIn_of_wp_marks Try.func13 rfl trivial ?_ rfl
  simp only [Try.ntmps13, List.size_toArray, List.length_cons, List.length_nil, Nat.reduceAdd, Nat.reduceSub, Array.replicate_succ, Array.replicate_zero, List.push_toArray, List.append_toArray, List.nil_append, List.cons_append]
  gi_wp2_with (refine ⟨trivial, ?_⟩; gi_at_call 36; refine (callsIn_wide.2 (terms_any _ _ _ _)).mono ?_; rintro e w' ⟨rfl, rfl⟩)
  try simp only [World.size_alloc]
  try rw [hW0]
  clear hW0
  refine range_t (w0 := w) (all := sidesOf l) (gf := 69) (lb := #[.pointer (some ⟨w.heap.size + 1, 0, none⟩)]) 9 rfl (enters_of Try.func69 (by kernel_rfl) rfl) rfl
    (fun W hW => terms1_any w (w.heap.size + 1) l _ W (hbel.trans (hW.mono (by omega))) (kc hW (by omega) hB1) hc)
    (RInvTE w w.heap.size SRel) (fun _ _ _ => False) RInvT.abide (fun _ _ _ _ _ _ h => h.elim)
    ⟨_, [], hB0, World.ownsRow_nil _ _ _ _, rfl, by simp, (fun g e => by cases e), by simp, hbel⟩ (by omega) (fun _ _ _ h r hr => by obtain ⟨v, cs, h⟩ := h; exact (h.low r hr).2)
    (fun p sl a' W => ∃ Bx, W.heap[Bx]? = some (.cells [Value.int .i64 p.v, .string p.fn, sl].toArray 26 (0, 0)) ∧ a' = { tmps := #[.slice a l.length c, undef, .slice none 0 0, .pointer (some ⟨w.heap.size, 0, none⟩), .pointer (some ⟨Bx, 0, none⟩), .slice a l.length c, .func (.func 69) #[] #[.pointer (some ⟨w.heap.size + 1, 0, none⟩)], tval p sl, undef, undef, undef, undef, undef, undef, undef, undef], defers := [] })
    ?hax ?assign ?body ?done ?stop
  case hax =>
    rintro p sl a' W l r o ⟨Bx, hbx, rfl⟩ hl
    refine ⟨Bx, (World.putObj_heap_other ?_).trans hbx, rfl⟩
    rintro rfl
    rw [hbx] at hl
    cases hl
  case assign =>
    rintro lx p sl W K hsl hK
    obtain ⟨sa, sc, rfl, _, _⟩ := hsl.slice
    gi_wp2
    refine hK _ _ (below_box W _) ⟨W.heap.size, (MapKept.heap_alloc W _).1, ?_⟩
    simp
  case body =>
    rintro lx E pre p sl a' W ⟨v, cs, hi⟩ hl hw hsl ⟨rest, hrest⟩ ⟨Bx, hbx, rfl⟩
    obtain ⟨hps, hpp⟩ := hsh p (by rw [← hrest]; simp)
    have haw := ArgsAt.keep hw (Nat.le_refl _) hsl
    have hdr : Below W.heap.size W W.drew := (Below.refl _ W).drew
    have hcl := tvars_any p sl W.drew (ArgsAt.keep hdr (Nat.le_refl _) haw) hps hpp
    have hcell := hi.box.cell
    have x0 : W.cell? ⟨Bx, 0, none⟩ = some (.int .i64 p.v) := by rw [cell_of_row _ _ _ _ 26 (0, 0) hbx]; rfl
    have x1 : W.cell? ⟨Bx, 1, none⟩ = some (.string p.fn) := by rw [cell_of_row _ _ _ _ 26 (0, 0) hbx]; rfl
    have x2 : W.cell? ⟨Bx, 2, none⟩ = some sl := by rw [cell_of_row _ _ _ _ 26 (0, 0) hbx]; rfl
    have hlenN : cs.length + (p.vs.foldl wth []).length ≤ 1048576 := by
      have h1 := svs_len (sidesOf l)
      rw [← hrest, show pre ++ p :: rest = (pre ++ [p]) ++ rest by simp, svs_append, svs_snoc] at h1
      have h2 : cs = (svs pre).map (Value.int .i64) := hi.say
      rw [h2]
      have h3 : (cvs l).length = ((((pre ++ [p]) ++ rest).map T.vs).flatten).length := by rw [show (pre ++ [p]) ++ rest = pre ++ p :: rest by simp, hrest]; rfl
      simp only [List.length_append, List.length_map] at h1 ⊢
      omega
    have HFN : Hid (∀ w1 v1 k, w1.ownsRow W.drew.heap.size 3 1 v1 k ((p.vs.foldl wth []).map (Value.int .i64)) → Below W.drew.heap.size W.drew w1 → w1.cell? ⟨w.heap.size, 0, none⟩ = some v ∧ ∃ v2 w2, (∃ a2 n2 c2, v2 = .slice a2 n2 c2) ∧ (Builtin.append_ #[33, 33] 33 #[v, v1]).run Try.prog w1 = .ok v2 w2 ∧ (w2.cell? ⟨w.heap.size, 0, none⟩ = some v ∧ w2.frozen? ⟨w.heap.size, 0, none⟩ = false) ∧ Kept w.heap.size E W (w2.setCell ⟨w.heap.size, 0, none⟩ v2) ∧ RInvTE w w.heap.size SRel E (pre ++ [p]) (w2.setCell ⟨w.heap.size, 0, none⟩ v2)) := by
      intro w1 v1 k hr1 hb1
      obtain ⟨k1, h1⟩ := hi.grow (hdr.trans hb1)
      have hk : k = (p.vs.foldl wth []).length := by have := hr1.1; simp at this; omega
      obtain ⟨v2, w2, hr, ho, hg, hat⟩ := run_append_rows w1 w.heap.size W.drew.heap.size 33 v v1 cs.length k cs _ h1.row hr1 (by intro u hu; obtain ⟨z, _, rfl⟩ := List.mem_map.1 hu; rfl) (by omega) h1.bel.size
      obtain ⟨hcf, k2, h2⟩ := h1.push (Nat.le_refl _) k _ v2 w2 ho hg hat (pre ++ [p]) (by
        have h3 : cs = (svs pre).map (Value.int .i64) := hi.say
        show _ = _
        rw [svs_snoc, List.map_append, ← h3])
      obtain ⟨ra, rc, hre⟩ := row_form ho
      exact ⟨h1.box.cell, v2, w2, ⟨ra, _, rc, hre⟩, hr, hcf, k1.trans k2, _, _, h2⟩
    obtain ⟨sa, sc, rfl, _, _⟩ := hsl.slice
    obtain ⟨va, vc, rfl⟩ := row_form hi.row
    generalize cs.length = vn at *
    clear hi haw hw hrest hps hpp hbx hlenN
    gi_wp2
    refine wpIn_region_any (by kernel_rfl) ?_
    try (change wpAnyIn _ _ _ _ _ _ _ _ _ (World.drew _))
    refine wpAnyIn_ready (rs := [0, 1]) (by kernel_rfl) (by simp) ?_
    refine AllReadyIn.cons rfl (fun K hK => ?_) ?_
    · go_simp
      refine hK _ _ ?_
      clear hK K
      refine wpAnyIn_ready (rs := [1]) (by kernel_rfl) (by simp) ?_
      refine AllReadyIn.cons rfl (fun K hK => ?_) AllReadyIn.nil
      go_simp
      refine hK _ _ ?_
      clear hK K
      refine wpAnyIn_ready (rs := [2]) (by kernel_rfl) (by simp) ?_
      refine AllReadyIn.cons rfl (fun K hK => ?_) AllReadyIn.nil
      go_simp
      refine ⟨trivial, (CallsIn.inRound lx (callsIn_wide.2 hcl)).mono ?_⟩
      rintro e w1 ⟨v1, k, rfl, hr1, hb1⟩
      obtain ⟨f0, v2, w2, ⟨a2, n2, c2, rfl⟩, hr2, ⟨f1, f2⟩, kk, ii⟩ := HFN.out w1 v1 k hr1 hb1
      obtain ⟨u1, u2, rfl⟩ := row_form hr1
      clear hr1 hb1
      refine hK _ _ ?_
      clear hK K
      refine wpAnyIn_ready (rs := [3]) (by kernel_rfl) (by simp) ?_
      refine AllReadyIn.cons rfl (fun K hK => ?_) AllReadyIn.nil
      refine stepIn_run _ rfl _ _ 33 rfl _ _ rfl rfl _ w2 hr2 ?_
      refine hK _ _ ?_
      clear hK K
      refine wpAnyIn_ready (rs := [4]) (by kernel_rfl) (by simp) ?_
      refine AllReadyIn.cons rfl (fun K hK => ?_) AllReadyIn.nil
      go_simp
      refine hK _ _ ?_
      clear hK K
      refine wpAnyIn_done (by kernel_rfl) ?_ _
      exact ⟨kk, ii⟩
    refine AllReadyIn.cons rfl (fun K hK => ?_) AllReadyIn.nil
    go_simp
    refine hK _ _ ?_
    clear hK K
    refine wpAnyIn_ready (rs := [0, 2]) (by kernel_rfl) (by simp) ?_
    refine AllReadyIn.cons rfl (fun K hK => ?_) ?_
    · go_simp
      refine hK _ _ ?_
      clear hK K
      refine wpAnyIn_ready (rs := [2]) (by kernel_rfl) (by simp) ?_
      refine AllReadyIn.cons rfl (fun K hK => ?_) AllReadyIn.nil
      go_simp
      refine ⟨trivial, (CallsIn.inRound lx (callsIn_wide.2 hcl)).mono ?_⟩
      rintro e w1 ⟨v1, k, rfl, hr1, hb1⟩
      obtain ⟨f0, v2, w2, ⟨a2, n2, c2, rfl⟩, hr2, ⟨f1, f2⟩, kk, ii⟩ := HFN.out w1 v1 k hr1 hb1
      obtain ⟨u1, u2, rfl⟩ := row_form hr1
      clear hr1 hb1
      refine hK _ _ ?_
      clear hK K
      refine wpAnyIn_ready (rs := [3]) (by kernel_rfl) (by simp) ?_
      refine AllReadyIn.cons rfl (fun K hK => ?_) AllReadyIn.nil
      refine stepIn_run _ rfl _ _ 33 rfl _ _ rfl rfl _ w2 hr2 ?_
      refine hK _ _ ?_
      clear hK K
      refine wpAnyIn_ready (rs := [4]) (by kernel_rfl) (by simp) ?_
      refine AllReadyIn.cons rfl (fun K hK => ?_) AllReadyIn.nil
      go_simp
      refine hK _ _ ?_
      clear hK K
      refine wpAnyIn_done (by kernel_rfl) ?_ _
      exact ⟨kk, ii⟩
    refine AllReadyIn.cons rfl (fun K hK => ?_) AllReadyIn.nil
    go_simp
    refine ⟨trivial, (CallsIn.inRound lx (callsIn_wide.2 hcl)).mono ?_⟩
    rintro e w1 ⟨v1, k, rfl, hr1, hb1⟩
    obtain ⟨f0, v2, w2, ⟨a2, n2, c2, rfl⟩, hr2, ⟨f1, f2⟩, kk, ii⟩ := HFN.out w1 v1 k hr1 hb1
    obtain ⟨u1, u2, rfl⟩ := row_form hr1
    clear hr1 hb1
    refine hK _ _ ?_
    clear hK K
    refine wpAnyIn_ready (rs := [0]) (by kernel_rfl) (by simp) ?_
    refine AllReadyIn.cons rfl (fun K hK => ?_) AllReadyIn.nil
    go_simp
    refine hK _ _ ?_
    clear hK K
    refine wpAnyIn_ready (rs := [3]) (by kernel_rfl) (by simp) ?_
    refine AllReadyIn.cons rfl (fun K hK => ?_) AllReadyIn.nil
    refine stepIn_run _ rfl _ _ 33 rfl _ _ rfl rfl _ w2 hr2 ?_
    refine hK _ _ ?_
    clear hK K
    refine wpAnyIn_ready (rs := [4]) (by kernel_rfl) (by simp) ?_
    refine AllReadyIn.cons rfl (fun K hK => ?_) AllReadyIn.nil
    go_simp
    refine hK _ _ ?_
    clear hK K
    refine wpAnyIn_done (by kernel_rfl) ?_ _
    exact ⟨kk, ii⟩
  case done =>
    rintro D E W hD ⟨v, cs, hi1⟩ hDE hK
    have hsay : cs = (svs (sidesOf l)).map (Value.int .i64) := hi1.say
    have hvl : (svs (sidesOf l)).length ≤ 1048576 := Nat.le_trans (svs_len _) hN
    have HW : Hid ((svs (sidesOf l)).foldl wth [] = (cvs l).foldl wth []) := svs_wth _
    obtain ⟨L, hL⟩ : ∃ L, svs (sidesOf l) = L := ⟨_, rfl⟩
    rw [hL] at hsay hvl HW
    have hrow := hi1.row
    rw [hsay, List.length_map] at hrow
    have hs := sort_own w.heap.size v L.length L W hrow hvl
    have hmid : ∀ W2 : World, W.grownBy W2 v.ownBlock → Boxed W2 w.heap.size 33 v ∧ W2.heap[D]? = some (.deferred (some [])) ∧ Below w.heap.size w W2 := by
      intro W2 hg
      refine ⟨hi1.box.kept hg (hi1.box.not_row (by decide) hi1.row), (hg.block D (hi1.low D hDE).2 (fun e => hi1.mine D e.symm hDE)).trans hK, hi1.bel.trans ⟨hg.os, hg.tape, hg.output, hg.size, fun k hk => hg.block k (Nat.lt_of_lt_of_le hk hi1.bel.size) (fun e => by have := (hi1.row.lt k e.symm).1; omega)⟩⟩
    have hc0 := hi1.box.cell
    have hcp : ∀ W2 : World, W2.ownsRow w.heap.size 3 1 v L.length ((L.mergeSort fun x y => decide (x ≤ y)).map (Value.int .i64)) → Calls Try.prog 43 #[v] W2 fun e w' => ∃ v' k', e = .returned v' ∧ w'.ownsRow w.heap.size 3 1 v' k' (((cvs l).foldl wth []).map (Value.int .i64)) ∧ W2.grownBy w' v.ownBlock := by
      intro W2 h2
      have := compact_own w.heap.size v L.length _ W2 h2 hvl
      rwa [sorted_same, HW.out] at this
    obtain ⟨pa, pc, rfl⟩ := row_form hrow
    obtain ⟨n, hn⟩ : ∃ n, L.length = n := ⟨_, rfl⟩
    rw [hn] at hs hmid hc0 hcp
    clear hrow hsay hi1 hvl hB0 hB1 hbel hn hsh hc hN
    gi_wp2_with (first
      | (refine ⟨trivial, ?_⟩; gi_at_call 43; refine (callsIn_wide.2 (hcp _ HS.out.1)).mono ?_; rintro e w3 ⟨v3, k3, rfl, hr3, hg3⟩; obtain ⟨pa3, pc3, rfl⟩ := row_form hr3; have H3 : Hid (w3.ownsRow w.heap.size 3 1 (.slice pa3 k3 pc3) k3 (((cvs l).foldl wth []).map (Value.int .i64)) ∧ w3.heap[D]? = some (.deferred (some [])) ∧ Below w.heap.size w w3) := ⟨hr3, (hmid w3 (HS.out.2.trans hg3)).2⟩; clear hr3 hg3)
      | (refine ⟨trivial, ?_⟩; gi_at_call 42; refine (callsIn_wide.2 hs).mono ?_; rintro e w2 ⟨rfl, hr2, hg2⟩; have c2 := (hmid w2 hg2).1.cell; have HS : Hid (w2.ownsRow w.heap.size 3 1 (.slice pa n pc) n ((L.mergeSort fun x y => decide (x ≤ y)).map (Value.int .i64)) ∧ W.grownBy w2 (Value.slice pa n pc).ownBlock) := ⟨hr2, hg2⟩; clear hr2 hg2))
    refine ⟨by simp, .inl ⟨_, _, rfl, run_takeDeferred H3.out.2.1, ?_⟩⟩
    refine ⟨_, results_tmp rfl _ _ _, _, k3, rfl, ?_, H3.out.2.2.trans ⟨rfl, rfl, rfl, by simp, fun k hk => World.putObj_heap_other (by omega)⟩⟩
    exact row_put H3.out.1 H3.out.2.1
  case stop =>
    rintro D E pre W _ h
    exact h.elim

end Go.Proofs.Ytgnjgpplelakkaa

/-
  The document's Equal of clauses.
-/
namespace Go.Proofs.Ytgnjgpplelakkaa
open Go.RowKit

set_option maxRecDepth 100000 in
set_option maxHeartbeats 8000000 in
theorem rcequal_any (l m : List Lt) (v u : Value) (w : World) (hl : ClauseAt w v l) (hm : ClauseAt w u m) :
    Calls Try.prog 16 #[v, u] w fun e w' => e = .returned (.bool (ceq l m)) ∧ Below w.heap.size w w' := by
  obtain ⟨a, c, rfl⟩ := hl.slice
  obtain ⟨b, d, rfl⟩ := hm.slice
  have hlen := hl.len
  have hlen' := hm.len
  have HL : Hid (ClauseAt w (.slice a l.length c) l) := hl
  have HM : Hid (ClauseAt w (.slice b m.length d) m) := hm
  clear hl hm
  by_cases hlm : l.length = m.length
  · have hbn : ((l.length : Int) != (m.length : Int)) = false := by rw [bne_eq_false_iff_eq]; omega
    have HLM : Hid (l.length = m.length) := hlm
    clear hlm
    go_enter Try.func16, Try.ntmps16
    go_wp2
    go_loopw [5] (fun vi wr => ∃ i : Nat, vi = .int .i64 i ∧ i ≤ l.length ∧ Below w.heap.size w wr ∧ l.take i = m.take i) (fun vi _ => l.length - (intOf vi).toNat)
    case atStart => exact ⟨0, rfl, Nat.zero_le _, Below.refl _ _, by simp⟩
    case round =>
      obtain ⟨i, rfl, hi, hb, hall⟩ := hrel
      by_cases hlt : i < l.length
      · have hlt' : i < m.length := by have := HLM.out; omega
        obtain ⟨bb, o, sl, sr, rfl, hX⟩ := (HL.out.keep hb).nth hlt
        obtain ⟨bb', o', sl', sr', rfl, hY⟩ := (HM.out.keep hb).nth hlt'
        have HN : Hid (l[i] = m[i] → l.take (i + 1) = m.take (i + 1)) := fun e => by rw [List.take_succ_eq_append_getElem hlt, List.take_succ_eq_append_getElem hlt', hall, e]
        have HF : Hid (l[i] ≠ m[i] → ceq l m = false) := fun e => ceq_false fun h => e (by simp [h])
        obtain ⟨x, hx⟩ : ∃ x, l[i] = x := ⟨_, rfl⟩
        obtain ⟨y, hy⟩ : ∃ y, m[i] = y := ⟨_, rfl⟩
        rw [hx] at hX HN HF
        rw [hy] at hY HN HF
        have HQ : Hid ((leq x y = true → l.take (i + 1) = m.take (i + 1)) ∧ (leq x y = false → ceq l m = false)) := ⟨fun h => HN.out (leq_iff.1 h), fun h => HF.out fun e => by rw [leq_iff.2 e] at h; cases h⟩
        have hc21 : ∀ (t t' : T) (s s' : Value), ArgsAt wr s t.args → ArgsAt wr s' t'.args → ∀ W, Below wr.heap.size wr W → Calls Try.prog 21 #[tval t s, tval t' s'] W fun e w' => e = .returned (.bool (same t t')) ∧ Below W.heap.size W w' := fun t t' s s' h h' W hW => rsame_any t t' _ _ W (ArgsAt.keep hW (Nat.le_refl _) h) (ArgsAt.keep hW (Nat.le_refl _) h')
        have hal := hX.al
        have har := hX.ar
        have hal' := hY.al
        have har' := hY.ar
        have f0 := fun p => cell_far hX.lt hX.c0 p
        have f1 := fun p => cell_far hX.lt hX.c1 p
        have f2 := fun p => cell_far hX.lt hX.c2 p
        have f3 := fun p => cell_far hX.lt hX.c3 p
        have f4 := fun p => cell_far hX.lt hX.c4 p
        have f5 := fun p => cell_far hX.lt hX.c5 p
        have f6 := fun p => cell_far hX.lt hX.c6 p
        have g0 := fun p => cell_far hY.lt hY.c0 p
        have g1 := fun p => cell_far hY.lt hY.c1 p
        have g2 := fun p => cell_far hY.lt hY.c2 p
        have g3 := fun p => cell_far hY.lt hY.c3 p
        have g4 := fun p => cell_far hY.lt hY.c4 p
        have g5 := fun p => cell_far hY.lt hY.c5 p
        have g6 := fun p => cell_far hY.lt hY.c6 p
        have HB : Hid (Below w.heap.size w wr) := hb
        obtain ⟨_, _, rfl, _⟩ := hX.al.slice
        obtain ⟨_, _, rfl, _⟩ := hX.ar.slice
        obtain ⟨_, _, rfl, _⟩ := hY.al.slice
        obtain ⟨_, _, rfl, _⟩ := hY.ar.slice
        have i0' : (i : Int) < (l.length : Int) := by omega
        have i1' : (0 : Int) ≤ (i : Int) := by omega
        have i2' : (i : Int) < (m.length : Int) := by omega
        have HE : Hid (leq x y = ((x.neg == y.neg) && same x.l y.l && same x.r y.r)) := rfl
        clear hX hY hb hall hx hy HN HF
        obtain ⟨n1, xl, xr⟩ := x
        obtain ⟨n2, yl, yr⟩ := y
        simp only at *
        by_cases hn : n1 = n2
        · subst hn
          have hb : (n1 != n1) = false := by simp
          have hb' : (n1 == n1) = true := by simp
          cases hp : same xl yl
          · have HG : Hid (ceq l m = false) := HQ.out.2 (by rw [HE.out, hp]; simp)
            clear HQ HE
            go_wp2
            refine wp_region_far (by kernel_rfl) ?_
            repeat (first | go_big_quiet_step (exact calls_far (hc21 _ _ _ _ (by first | exact hal | exact har) (by first | exact hal' | exact har')) _) | quiet_step (exact calls_far (hc21 _ _ _ _ (by first | exact hal | exact har) (by first | exact hal' | exact har')) _))
            refine wpQuiet_nil ?_
            intro _ hw'
            obtain ⟨pf, rfl⟩ := hw'
            go_wp2
            go_ret
            exact ⟨ret_bool HG.out.symm, HB.out.trans ((below_far _ pf).mono HB.out.size)⟩
          · cases hq : same xr yr
            · have HG : Hid (ceq l m = false) := HQ.out.2 (by rw [HE.out, hq]; simp)
              clear HQ HE
              go_wp2
              refine wp_region_far (by kernel_rfl) ?_
              repeat (first | go_big_quiet_step (exact calls_far (hc21 _ _ _ _ (by first | exact hal | exact har) (by first | exact hal' | exact har')) _) | quiet_step (exact calls_far (hc21 _ _ _ _ (by first | exact hal | exact har) (by first | exact hal' | exact har')) _))
              refine wpQuiet_nil ?_
              intro _ hw'
              obtain ⟨pf, rfl⟩ := hw'
              go_wp2
              go_ret
              exact ⟨ret_bool HG.out.symm, HB.out.trans ((below_far _ pf).mono HB.out.size)⟩
            · have HG : Hid (l.take (i + 1) = m.take (i + 1)) := HQ.out.1 (by rw [HE.out, hp, hq]; simp)
              clear HQ HE
              go_wp2
              refine wp_region_far (by kernel_rfl) ?_
              repeat (first | go_big_quiet_step (exact calls_far (hc21 _ _ _ _ (by first | exact hal | exact har) (by first | exact hal' | exact har')) _) | quiet_step (exact calls_far (hc21 _ _ _ _ (by first | exact hal | exact har) (by first | exact hal' | exact har')) _))
              refine wpQuiet_nil ?_
              intro _ hw'
              obtain ⟨pf, rfl⟩ := hw'
              go_wp2
              go_roundw
              case rel => exact ⟨i + 1, by go_num, by omega, HB.out.trans ((below_far _ pf).mono HB.out.size), HG.out⟩
              case measure => simp [intOf]; omega
        · have hb : (n1 != n2) = true := by rw [bne_iff_ne]; exact hn
          have hb' : (n1 == n2) = false := by simpa using hn
          have HG : Hid (ceq l m = false) := HQ.out.2 (by rw [HE.out, hb']; rfl)
          clear HQ HE hn
          cases n1 <;> cases n2 <;> first | exact absurd hb (by decide) | (
            go_wp2
            refine wp_region_far (by kernel_rfl) ?_
            repeat (first | go_big_quiet_step (exact calls_far (hc21 _ _ _ _ (by first | exact hal | exact har) (by first | exact hal' | exact har')) _) | quiet_step (exact calls_far (hc21 _ _ _ _ (by first | exact hal | exact har) (by first | exact hal' | exact har')) _))
            refine wpQuiet_nil ?_
            intro _ hw'
            obtain ⟨pf, rfl⟩ := hw'
            go_wp2
            go_ret
            exact ⟨ret_bool HG.out.symm, HB.out.trans ((below_far _ pf).mono HB.out.size)⟩)
      · have HG : Hid (ceq l m = true) := by
          refine ceq_true.2 ?_
          rw [List.take_of_length_le (by omega), List.take_of_length_le (by have := HLM.out; omega)] at hall
          exact hall
        clear hall
        go_wp2
        go_ret
        exact ⟨ret_bool HG.out.symm, hb⟩
  · have hbn : ((l.length : Int) != (m.length : Int)) = true := by rw [bne_iff_ne]; omega
    have HG : Hid (ceq l m = false) := ceq_false fun h => hlm (by rw [h])
    go_enter Try.func16, Try.ntmps16
    go_wp2
    go_ret
    exact ⟨ret_bool HG.out.symm, Below.refl _ _⟩

end Go.Proofs.Ytgnjgpplelakkaa

/-
  The document's Same of literals.
-/
namespace Go.Proofs.Ytgnjgpplelakkaa
open Go.RowKit

set_option maxRecDepth 100000 in
set_option maxHeartbeats 8000000 in
theorem rlsame_any (x y : Lt) (a b c d : Value) (w : World) (hxl : ArgsAt w a x.l.args) (hxr : ArgsAt w b x.r.args) (hyl : ArgsAt w c y.l.args) (hyr : ArgsAt w d y.r.args) :
    Calls Try.prog 18 #[lval x a b, lval y c d] w fun e w' => e = .returned (.bool (lsame x y)) ∧ Below w.heap.size w w' := by
  have hS0 := TwoL.new hxl hxr hyl hyr
  have hLL : Serves (TwoL w x a b y c d) 21 #[tval x.l a, tval y.l c] (.bool (same x.l y.l)) := TwoL.serves fun X hX => rsame_any x.l y.l _ _ X hX.lx.al hX.ly.al
  have hRR : Serves (TwoL w x a b y c d) 21 #[tval x.r b, tval y.r d] (.bool (same x.r y.r)) := TwoL.serves fun X hX => rsame_any x.r y.r _ _ X hX.lx.ar hX.ly.ar
  have hLR : Serves (TwoL w x a b y c d) 21 #[tval x.l a, tval y.r d] (.bool (same x.l y.r)) := TwoL.serves fun X hX => rsame_any x.l y.r _ _ X hX.lx.al hX.ly.ar
  have hRL : Serves (TwoL w x a b y c d) 21 #[tval x.r b, tval y.l c] (.bool (same x.r y.l)) := TwoL.serves fun X hX => rsame_any x.r y.l _ _ X hX.lx.ar hX.ly.al
  have hC := fun X (h : TwoL w x a b y c d X) => And.intro h.lx.zero h.ly.zero
  have hbl := fun X (h : TwoL w x a b y c d X) => h.bel
  obtain ⟨_, _, rfl, _⟩ := hxl.slice
  obtain ⟨_, _, rfl, _⟩ := hxr.slice
  obtain ⟨_, _, rfl, _⟩ := hyl.slice
  obtain ⟨_, _, rfl, _⟩ := hyr.slice
  generalize hS : TwoL w x _ _ y _ _ = S at *
  clear hS hxl hxr hyl hyr
  have HE : Hid (lsame x y = ((x.neg == y.neg) && (same x.l y.l && same x.r y.r || same x.l y.r && same x.r y.l))) := rfl
  generalize same x.l y.l = p at *
  generalize same x.r y.r = q at *
  generalize same x.l y.r = r at *
  generalize same x.r y.l = s at *
  obtain ⟨⟨a0, a1, a2, a3, a4, a5, a6⟩, b0, b1, b2, b3, b4, b5, b6⟩ := hC _ hS0
  obtain ⟨n1, xl, xr⟩ := x
  obtain ⟨n2, yl, yr⟩ := y
  simp only at *
  by_cases hn : n1 = n2
  · subst hn
    have hb : (n1 != n1) = false := by simp
    have HF : Hid (lsame ⟨n1, xl, xr⟩ ⟨n1, yl, yr⟩ = (p && q || r && s)) := by show _ = _; rw [HE.out]; simp
    clear HE
    cases p with
    | true =>
      cases q with
      | true =>
        go_enter Try.func18, Try.ntmps18
        go_wp2_with fail
        refine (hLL _ hS0).mono ?_
        rintro e W1 ⟨rfl, H1⟩
        obtain ⟨⟨a10, a11, a12, a13, a14, a15, a16⟩, b10, b11, b12, b13, b14, b15, b16⟩ := hC _ H1
        go_wp2_with fail
        refine (hRR _ H1).mono ?_
        rintro e W2 ⟨rfl, H2⟩
        go_wp2
        go_ret
        exact ⟨ret_bool (by rw [HF.out]; simp), hbl _ H2⟩
      | false =>
        cases r with
        | false =>
          go_enter Try.func18, Try.ntmps18
          go_wp2_with fail
          refine (hLL _ hS0).mono ?_
          rintro e W1 ⟨rfl, H1⟩
          obtain ⟨⟨a10, a11, a12, a13, a14, a15, a16⟩, b10, b11, b12, b13, b14, b15, b16⟩ := hC _ H1
          go_wp2_with fail
          refine (hRR _ H1).mono ?_
          rintro e W2 ⟨rfl, H2⟩
          obtain ⟨⟨a20, a21, a22, a23, a24, a25, a26⟩, b20, b21, b22, b23, b24, b25, b26⟩ := hC _ H2
          go_wp2_with fail
          refine (hLR _ H2).mono ?_
          rintro e W3 ⟨rfl, H3⟩
          go_wp2
          go_ret
          exact ⟨ret_bool (by rw [HF.out]; simp), hbl _ H3⟩
        | true =>
          go_enter Try.func18, Try.ntmps18
          go_wp2_with fail
          refine (hLL _ hS0).mono ?_
          rintro e W1 ⟨rfl, H1⟩
          obtain ⟨⟨a10, a11, a12, a13, a14, a15, a16⟩, b10, b11, b12, b13, b14, b15, b16⟩ := hC _ H1
          go_wp2_with fail
          refine (hRR _ H1).mono ?_
          rintro e W2 ⟨rfl, H2⟩
          obtain ⟨⟨a20, a21, a22, a23, a24, a25, a26⟩, b20, b21, b22, b23, b24, b25, b26⟩ := hC _ H2
          go_wp2_with fail
          refine (hLR _ H2).mono ?_
          rintro e W3 ⟨rfl, H3⟩
          obtain ⟨⟨a30, a31, a32, a33, a34, a35, a36⟩, b30, b31, b32, b33, b34, b35, b36⟩ := hC _ H3
          go_wp2_with fail
          refine (hRL _ H3).mono ?_
          rintro e W4 ⟨rfl, H4⟩
          go_wp2
          go_ret
          exact ⟨ret_bool (by rw [HF.out]; simp), hbl _ H4⟩
    | false =>
      cases r with
      | false =>
        go_enter Try.func18, Try.ntmps18
        go_wp2_with fail
        refine (hLL _ hS0).mono ?_
        rintro e W1 ⟨rfl, H1⟩
        obtain ⟨⟨a10, a11, a12, a13, a14, a15, a16⟩, b10, b11, b12, b13, b14, b15, b16⟩ := hC _ H1
        go_wp2_with fail
        refine (hLR _ H1).mono ?_
        rintro e W3 ⟨rfl, H3⟩
        go_wp2
        go_ret
        exact ⟨ret_bool (by rw [HF.out]; simp), hbl _ H3⟩
      | true =>
        go_enter Try.func18, Try.ntmps18
        go_wp2_with fail
        refine (hLL _ hS0).mono ?_
        rintro e W1 ⟨rfl, H1⟩
        obtain ⟨⟨a10, a11, a12, a13, a14, a15, a16⟩, b10, b11, b12, b13, b14, b15, b16⟩ := hC _ H1
        go_wp2_with fail
        refine (hLR _ H1).mono ?_
        rintro e W3 ⟨rfl, H3⟩
        obtain ⟨⟨a30, a31, a32, a33, a34, a35, a36⟩, b30, b31, b32, b33, b34, b35, b36⟩ := hC _ H3
        go_wp2_with fail
        refine (hRL _ H3).mono ?_
        rintro e W4 ⟨rfl, H4⟩
        go_wp2
        go_ret
        exact ⟨ret_bool (by rw [HF.out]; simp), hbl _ H4⟩
  · have hb : (n1 != n2) = true := by rw [bne_iff_ne]; exact hn
    have HF : Hid (lsame ⟨n1, xl, xr⟩ ⟨n2, yl, yr⟩ = false) := by
      show _ = _
      rw [HE.out]
      have : (n1 == n2) = false := by simpa using hn
      rw [this]
      rfl
    clear HE hn
    cases n1 <;> cases n2 <;> first | exact absurd hb (by decide) | (
      go_enter Try.func18, Try.ntmps18
      go_wp2
      go_ret
      exact ⟨ret_bool HF.out.symm, hbl _ hS0⟩)

end Go.Proofs.Ytgnjgpplelakkaa
