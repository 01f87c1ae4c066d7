import Derived.Test.YtblfbmdnkgebdaaGL

/-
  graph.unite: what its loop keeps.
-/
namespace Go.Proofs.Ytblfbmdnkgebdaa
open Go.RowKit Go.Maps

theorem lastP {W : World} {base g cap m : Nat} {qs : List (Nat × Nat)} {q : Nat × Nat} (hm : qs.length = m) (h : W.ownsRow base 90 2 (.slice (some ⟨g, 0, none⟩) (m + 1) cap) (m + 1) (flatP (qs ++ [q]))) :
    (W.cell? ⟨g, m * 2, none⟩ = some (.int .i64 (q.1 : Int)) ∧ W.cell? ⟨g, m * 2 + 1, none⟩ = some (.int .i64 (q.2 : Int))) ∧ W.ownsRow base 90 2 (.slice (some ⟨g, 0, none⟩) m cap) m (flatP qs) := by
  have hl : (flatP qs).length = m * 2 := by rw [flatP_len, hm]
  rw [flatP_snoc] at h
  refine ⟨⟨?_, ?_⟩, ownsRow_pop hl h⟩
  · rw [h.cellAt (m * 2) (by omega), List.getElem?_append_right (by omega), hl, Nat.sub_self]; rfl
  · rw [h.cellAt (m * 2 + 1) (by omega), List.getElem?_append_right (by omega), hl, Nat.add_sub_cancel_left]; rfl

/-- The graph, its classes, and what must still become one. -/
structure UL (w0 w : World) (base g bv b c : Nat) (a bt : T) (n0 : Nat) (tm : Nat → T) (fs : Nat → Nat) (ν : Nv) (n : Nat) (ns : List Nd) (h : Nat → Nat) (ps is : List (Nat × Nat)) (v : Value) (W : World) : Prop where
  gat : GAt w0 base g bv ns ν n (.slice (some ⟨b, 0, none⟩) ns.length c) W
  gr : Gr ns n0 tm fs h
  lay : Lay a bt n0 tm fs
  shp : ∀ m ∈ ns, m.t.shape = true
  inv : UInv a bt n0 tm fs h is
  blk : Blank ns
  row : W.ownsRow w.heap.size 90 2 v ps.length (flatP ps)
  only : Only [b] w W
  lb : b < w.heap.size
  lw : base ≤ w.heap.size
  lg : g < w.heap.size
  lv : bv < w.heap.size
  small : n0 ≤ 8000

section
variable {w0 w : World} {base g bv b c : Nat} {a bt : T} {n0 : Nat} {tm : Nat → T} {fs : Nat → Nat} {ν : Nv} {n : Nat} {ns ns' : List Nd} {h : Nat → Nat} {ps is : List (Nat × Nat)} {v : Value} {W W' : World}

theorem UL.row_ne (H : UL w0 w base g bv b c a bt n0 tm fs ν n ns h ps is v W) {k : Nat} (e : v.ownBlock = some k) : k ≠ b := by
  have := (H.row.lt k e).1
  have := H.lb
  omega

theorem Same8.shp (hs : Same8 ns ns') (h : ∀ m ∈ ns, m.t.shape = true) : ∀ m ∈ ns', m.t.shape = true := by
  intro m hm
  obtain ⟨i, hi, rfl⟩ := List.getElem_of_mem hm
  have hi' : i < ns.length := by rw [← hs.1]; exact hi
  rw [hs.2.1 i hi' hi]
  exact h ns[i] (List.getElem_mem hi')

/-- Behind head: the ways up alone have turned. -/
theorem UL.head (H : UL w0 w base g bv b c a bt n0 tm fs ν n ns h ps is v W) (hs : Same8 ns ns') (hg : GAt w0 base g bv ns' ν n (.slice (some ⟨b, 0, none⟩) ns.length c) W') (hw : Wrote b W W') : UL w0 w base g bv b c a bt n0 tm fs ν n ns' h ps is v W' := by
  refine ⟨by rw [hs.1]; exact hg, H.gr.same hs, H.lay, hs.shp H.shp, H.inv, H.blk.same hs, row6_keep H.row (fun k e => hw.block k (H.row_ne e)), ?_, H.lb, H.lw, H.lg, H.lv, H.small⟩
  refine H.only.trans ⟨hw.os, hw.tape, hw.output, by rw [hw.size]; exact Nat.le_refl _, fun k _ hn => hw.block k (by simpa using hn)⟩ (fun r hr => .inl hr)

theorem UL.keep (H : UL w0 w base g bv b c a bt n0 tm fs ν n ns h ps is v W) (hb : Below W.heap.size W W') : UL w0 w base g bv b c a bt n0 tm fs ν n ns h ps is v W' :=
  ⟨H.gat.keep hb, H.gr, H.lay, H.shp, H.inv, H.blk, row6_keep H.row (fun k e => hb.block k (H.row.lt k e).2), H.only.trans (Only.of_below hb) (fun _r hr => .inl hr), H.lb, H.lw, H.lg, H.lv, H.small⟩

theorem UL.head_any (H : UL w0 w base g bv b c a bt n0 tm fs ν n ns h ps is v W) {i : Nat} (hi : i < n0) :
    Calls Try.prog 54 #[.pointer (some ⟨g, 0, none⟩), .int .i64 i] W fun e W' => e = .returned (.int .i64 (h i : Int)) ∧ ∃ ns', UL w0 w base g bv b c a bt n0 tm fs ν n ns' h ps is v W' := by
  obtain ⟨k, hk⟩ := H.gr.up i hi
  refine (Go.Proofs.Ytblfbmdnkgebdaa.head_any w0 base g bv b c ns ν n W H.gat k i (h i) hk (by have := H.gr.len; have := H.small; omega)).mono ?_
  rintro e W' ⟨rfl, ns', hs, hg, hw⟩
  exact ⟨rfl, ns', H.head hs hg hw⟩

/-- What append is handed. -/
def AppSrc (u : Value) (news : List (Nat × Nat)) (W : World) : Prop := (u = .slice none 0 0 ∧ news = []) ∨ ∃ G, u = .slice (some ⟨G, 0, none⟩) news.length news.length ∧ ∀ j x, (flatP news)[j]? = some x → W.cell? ((⟨G, 0, none⟩ : Addr).add j) = some x

theorem app_src {base' k : Nat} {xs : List Value} {u : Value} {news : List (Nat × Nat)} (h1 : W.ownsRow base' 90 2 v k xs) (h2 : AppSrc u news W) (hn : k + news.length ≤ 1000000) (hb : base' ≤ W.heap.size) (ty : TypeId) :
    ∃ v' w', (Builtin.append_ #[91, 91] ty #[v, u]).run Try.prog W = .ok v' w' ∧ w'.ownsRow base' 90 2 v' (k + news.length) (xs ++ flatP news) ∧ W.grownBy w' v.ownBlock ∧ (v'.ownBlock = v.ownBlock ∨ v'.ownBlock = some W.heap.size) := by
  obtain ⟨i0, hi, hz0, hz1, hz2⟩ := info_parts Try.info90
  rcases h2 with ⟨rfl, rfl⟩ | ⟨G, rfl, hnews⟩
  · exact ⟨v, W, run_append_owned_none W base' 91 ty 90 i0 2 Try.underlying91 hi v k xs h1, by simpa [flatP] using h1, ⟨rfl, rfl, rfl, Nat.le_refl _, fun _ _ _ => rfl⟩, .inl rfl⟩
  · obtain ⟨v', w', hr, a1, a2, _, a3⟩ := run_append_own_at (P := Try.prog) W base' 91 ty 90 i0 (.agg #[.int .i64 0, .int .i64 0]) 2 16 Try.underlying91 hi hz0 hz1 hz2 rfl (by decide) v k xs h1 ⟨G, 0, none⟩ news.length news.length (flatP news) (flatP_len news) hnews (one2 news) (by unfold maxLen; omega) (by omega) hb
    exact ⟨v', w', hr, a1, a2, a3⟩

/-- Behind the append. -/
theorem UL.push (H : UL w0 w base g bv b c a bt n0 tm fs ν n ns h ps is v W) {news : List (Nat × Nat)} {v' : Value} (hr : W'.ownsRow w.heap.size 90 2 v' (ps.length + news.length) (flatP ps ++ flatP news)) (hg : W.grownBy W' v.ownBlock) : UL w0 w base g bv b c a bt n0 tm fs ν n ns h (ps ++ news) is v' W' := by
  have hsz := H.only.size
  have hne : ∀ k, k < w.heap.size → v.ownBlock ≠ some k := fun k hk e => by have := (H.row.lt k e).1; omega
  have hgb : ∀ k, k < w.heap.size → W'.heap[k]? = W.heap[k]? := fun k hk => hg.block k (by omega) (fun e => hne k hk e.symm)
  refine ⟨⟨(hgb g H.lg).trans H.gat.box, row6_keep H.gat.row (fun k e => ?_), H.gat.map.same (hgb bv H.lv), H.gat.args, H.gat.ne, H.gat.own⟩, H.gr, H.lay, H.shp, H.inv, H.blk, ?_, ?_, H.lb, H.lw, H.lg, H.lv, H.small⟩
  · cases e; exact hgb b H.lb
  · rw [List.length_append, flatP_append]; exact hr
  · exact ⟨hg.os.trans H.only.os, hg.tape.trans H.only.tape, hg.output.trans H.only.output, Nat.le_trans hsz hg.size, fun k hk hn => (hgb k hk).trans (H.only.block k hk hn)⟩

/-- Behind a join. -/
theorem UL.joined {X Y : Nat} {is' : List (Nat × Nat)} (H : UL w0 w base g bv b c a bt n0 tm fs ν n ns h ps is v W) (hX : X < n0) (hY : Y < n0) (eX : h X = X) (eY : h Y = Y) (hne : X ≠ Y) (hYl : Y < ns.length) (hi : UInv a bt n0 tm fs (jn h X Y) is') (hg : GAt w0 base g bv (ns.set Y { ns[Y] with up := (X : Int) }) ν n (.slice (some ⟨b, 0, none⟩) ns.length c) W') (ho : Only [b] W W') :
    UL w0 w base g bv b c a bt n0 tm fs ν n (ns.set Y { ns[Y] with up := (X : Int) }) (jn h X Y) ps is' v W' ∧ heads n0 (jn h X Y) < heads n0 h := by
  refine ⟨⟨by rw [List.length_set]; exact hg, H.gr.join hX hY eX eY hne hYl, H.lay, fun m hm => ?_, hi, H.blk.set hYl _, row6_keep H.row (fun k e => ho.block k (H.row.lt k e).2 (by simpa using H.row_ne e)), H.only.trans ho (fun r hr => .inl hr), H.lb, H.lw, H.lg, H.lv, H.small⟩, heads_join eX eY hY hne⟩
  rcases List.mem_or_eq_of_mem_set hm with hm | rfl
  · exact H.shp m hm
  · exact H.shp ns[Y] (List.getElem_mem hYl)

/-- What join answers. -/
def JAns (w0 w : World) (base g bv b c : Nat) (a bt : T) (n0 : Nat) (tm : Nat → T) (fs : Nat → Nat) (ν : Nv) (n : Nat) (h : Nat → Nat) (qs : List (Nat × Nat)) (v : Value) (e : Ending) (W' : World) : Prop :=
  (∃ u news ns' h', e = .returned u ∧ UL w0 w base g bv b c a bt n0 tm fs ν n ns' h' qs (news.reverse ++ qs.reverse) v W' ∧ heads n0 h' < heads n0 h ∧ news.length ≤ 16 ∧ AppSrc u news W') ∨ (e = .panicked misfit ∧ Only [b] w W' ∧ ∀ θ, a.app θ ≠ bt.app θ)

theorem UL.join_any {p1 p2 : Nat} {qs : List (Nat × Nat)} (H : UL w0 w base g bv b c a bt n0 tm fs ν n ns h qs ((p1, p2) :: qs.reverse) v W) (hne : h p1 ≠ h p2) :
    Calls Try.prog 55 #[.pointer (some ⟨g, 0, none⟩), .int .i64 (h p1 : Int), .int .i64 (h p2 : Int)] W fun e W' => JAns w0 w base g bv b c a bt n0 tm fs ν n h qs v e W' := by
  obtain ⟨l1, l2⟩ := H.inv.plt (p1, p2) List.mem_cons_self
  have hx := H.inv.lt p1 l1
  have hy := H.inv.lt p2 l2
  have ex := H.inv.idem p1 l1
  have ey := H.inv.idem p2 l2
  have hlen := H.gr.len
  have hx' : h p1 < ns.length := by omega
  have hy' : h p2 < ns.length := by omega
  have hpre : JPre w0 base g bv b c ns ν n W (h p1) (h p2) := ⟨H.gat, hx', hy', Nat.le_trans H.lw H.only.size, by rw [hlen]; exact H.small⟩
  obtain ⟨tx, fx⟩ := H.gr.nd (h p1) hx'
  obtain ⟨ty, fy⟩ := H.gr.nd (h p2) hy'
  have hnil : ∀ X Y, UInv a bt n0 tm fs (jn h X Y) ([] ++ qs.reverse) → UInv a bt n0 tm fs (jn h X Y) (([] : List (Nat × Nat)).reverse ++ qs.reverse) := fun X Y hi => hi
  cases vx : uvar (tm (h p1)) with
  | true =>
    cases vy : uvar (tm (h p2)) with
    | false =>
      have hi := H.inv.join (h p2) (h p1) (.inr ⟨rfl, rfl⟩) hne (fun e => by rw [vy] at e; cases e) [] (fun p hp => by cases hp) (fun θ _ p hp => by cases hp) (fun _ e => by rw [vx] at e; cases e)
      refine (join_vf w0 base g bv b c ns ν n W _ _ hpre hx' hy' (by rw [tx]; exact vx) (by rw [ty]; exact vy)).mono ?_
      rintro e W' ⟨rfl, hg, ho⟩
      obtain ⟨k1, k2⟩ := H.joined hy hx ey ex (fun e => hne e.symm) hx' hi hg ho
      exact .inl ⟨_, [], _, _, rfl, k1, k2, by simp, .inl ⟨rfl, rfl⟩⟩
    | true =>
      by_cases hlt : (tm (h p2)).v < (tm (h p1)).v
      · have hi := H.inv.join (h p2) (h p1) (.inr ⟨rfl, rfl⟩) hne (fun _ => ⟨vx, by omega⟩) [] (fun p hp => by cases hp) (fun θ _ p hp => by cases hp) (fun _ e => by rw [vx] at e; cases e)
        refine (join_vless w0 base g bv b c ns ν n W _ _ hpre hx' hy' (by rw [tx]; exact vx) (by rw [ty]; exact vy) (by rw [tx, ty]; exact hlt)).mono ?_
        rintro e W' ⟨rfl, hg, ho⟩
        obtain ⟨k1, k2⟩ := H.joined hy hx ey ex (fun e => hne e.symm) hx' hi hg ho
        exact .inl ⟨_, [], _, _, rfl, k1, k2, by simp, .inl ⟨rfl, rfl⟩⟩
      · have hi := H.inv.join (h p1) (h p2) (.inl ⟨rfl, rfl⟩) hne (fun _ => ⟨vy, by omega⟩) [] (fun p hp => by cases hp) (fun θ _ p hp => by cases hp) (fun e _ => by rw [vx] at e; cases e)
        refine (join_vmore w0 base g bv b c ns ν n W _ _ hpre hx' hy' (by rw [tx]; exact vx) (by rw [ty]; exact vy) (by rw [tx, ty]; exact hlt)).mono ?_
        rintro e W' ⟨rfl, hg, ho⟩
        obtain ⟨k1, k2⟩ := H.joined hx hy ex ey hne hy' hi hg ho
        exact .inl ⟨_, [], _, _, rfl, k1, k2, by simp, .inl ⟨rfl, rfl⟩⟩
  | false =>
    cases vy : uvar (tm (h p2)) with
    | true =>
      have hi := H.inv.join (h p1) (h p2) (.inl ⟨rfl, rfl⟩) hne (fun e => by rw [vx] at e; cases e) [] (fun p hp => by cases hp) (fun θ _ p hp => by cases hp) (fun _ e => by rw [vy] at e; cases e)
      refine (join_fv w0 base g bv b c ns ν n W _ _ hpre hx' hy' (by rw [tx]; exact vx) (by rw [ty]; exact vy)).mono ?_
      rintro e W' ⟨rfl, hg, ho⟩
      obtain ⟨k1, k2⟩ := H.joined hx hy ex ey hne hy' hi hg ho
      exact .inl ⟨_, [], _, _, rfl, k1, k2, by simp, .inl ⟨rfl, rfl⟩⟩
    | false =>
      have huni : ∀ θ, a.app θ = bt.app θ → (tm (h p1)).app θ = (tm (h p2)).app θ := fun θ hθ => by
        have hs := H.inv.snd θ hθ
        have e : (tm p1).app θ = (tm p2).app θ := hs.2 (p1, p2) List.mem_cons_self
        rw [hs.1 p1 l1, hs.1 p2 l2] at e
        exact e
      by_cases hag : (tm (h p1)).fn = (tm (h p2)).fn ∧ (tm (h p1)).args.length = (tm (h p2)).args.length
      · obtain ⟨ef, el⟩ := hag
        have hk1 : ∀ l, l < (tm (h p1)).args.length → fs (h p1) + l < n0 ∧ fs (h p2) + l < n0 := fun l hl => ⟨(H.lay.kids _ hx l hl).1, (H.lay.kids _ hy l (by omega)).1⟩
        have hmem : ∀ p ∈ argPairs (fs (h p1)) (fs (h p2)) (tm (h p1)).args.length, ∃ l, l < (tm (h p1)).args.length ∧ p = (fs (h p1) + l, fs (h p2) + l) := fun p hp => by
          unfold argPairs at hp
          obtain ⟨l, hl, rfl⟩ := List.mem_map.1 hp
          exact ⟨l, List.mem_range.1 hl, rfl⟩
        have hi := H.inv.join (h p1) (h p2) (.inl ⟨rfl, rfl⟩) hne (fun e => by rw [vx] at e; cases e) (argPairs (fs (h p1)) (fs (h p2)) (tm (h p1)).args.length).reverse
          (fun p hp => by obtain ⟨l, hl, rfl⟩ := hmem p (List.mem_reverse.1 hp); exact hk1 l hl)
          (fun θ hθ p hp => by
            obtain ⟨l, hl, rfl⟩ := hmem p (List.mem_reverse.1 hp)
            show (tm (fs (h p1) + l)).app θ = (tm (fs (h p2) + l)).app θ
            rw [(H.lay.kids _ hx l hl).2, (H.lay.kids _ hy l (by omega)).2]
            have e := huni θ hθ
            rw [appF θ vx, appF θ vy] at e
            injection e with _ _ e
            have e2 : ((tm (h p1)).args.map (T.app θ))[l]? = ((tm (h p2)).args.map (T.app θ))[l]? := by rw [e]
            rw [List.getElem?_map, List.getElem?_map, List.getElem?_eq_getElem hl, List.getElem?_eq_getElem (by omega)] at e2
            simpa using e2)
          (fun _ _ => ⟨ef, el, fun gg hg l hl => hg (fs (h p1) + l, fs (h p2) + l) (List.mem_reverse.2 (List.mem_map.2 ⟨l, List.mem_range.2 hl, rfl⟩))⟩)
        have h16 := (shape_fn (H.shp ns[h p1] (List.getElem_mem hx')) (by rw [tx]; exact vx)).2.1
        have hsm := H.small
        refine (join_yes w0 base g bv b c ns ν n W _ _ hpre hx' hy' (by rw [tx]; exact vx) (by rw [ty]; exact vy) (by rw [tx, ty]; exact ef) (by rw [tx, ty]; exact el) h16 (fs (h p1)) (fs (h p2)) fx fy (fun l hl => by rw [tx] at hl; have := hk1 l hl; omega)).mono ?_
        rintro e W' ⟨G, rfl, hP, hg, ho, _⟩
        obtain ⟨k1, k2⟩ := H.joined hx hy ex ey hne hy' hi hg ho
        rw [tx] at hP h16
        refine .inl ⟨_, argPairs (fs (h p1)) (fs (h p2)) (tm (h p1)).args.length, _, _, rfl, k1, k2, by rw [argPairs_len]; exact h16, .inr ⟨G, by rw [argPairs_len, tx], hP.news⟩⟩
      · refine (join_no w0 base g bv b c ns ν n W _ _ hpre hx' hy' (by rw [tx]; exact vx) (by rw [ty]; exact vy) ?_).mono ?_
        · rw [tx, ty]
          by_cases ef : (tm (h p1)).fn = (tm (h p2)).fn
          · exact .inr ⟨ef, fun e => hag ⟨ef, e⟩⟩
          · exact .inl ef
        · rintro e W' ⟨rfl, ho⟩
          refine .inr ⟨rfl, H.only.trans ho (fun r hr => .inl hr), fun θ hθ => ?_⟩
          have e := huni θ hθ
          rw [appF θ vx, appF θ vy] at e
          injection e with _ e1 e2
          refine hag ⟨e1, ?_⟩
          have := congrArg List.length e2
          simpa using this
end

end Go.Proofs.Ytblfbmdnkgebdaa

/-
  graph.unite: the walk.
-/
namespace Go.Proofs.Ytblfbmdnkgebdaa
open Go.RowKit Go.Maps

/-- What unite answers. -/
def UAns (w0 w : World) (base g bv b c : Nat) (a bt : T) (n0 : Nat) (tm : Nat → T) (fs : Nat → Nat) (ν : Nv) (n : Nat) (e : Ending) (W' : World) : Prop :=
  (e = .returned (.tuple #[]) ∧ ∃ ns h, GAt w0 base g bv ns ν n (.slice (some ⟨b, 0, none⟩) ns.length c) W' ∧ Gr ns n0 tm fs h ∧ Solved a bt n0 tm fs h ∧ Blank ns ∧ Only [b] w W') ∨ (e = .panicked misfit ∧ Only [b] w W' ∧ ∀ θ, a.app θ ≠ bt.app θ)

theorem ps_lastP {ps : List (Nat × Nat)} (h : ps ≠ []) : ∃ qs q, ps = qs ++ [q] := ⟨ps.dropLast, ps.getLast h, (List.dropLast_concat_getLast h).symm⟩

/-- append, where it is told what comes of it. -/
theorem wpList_append_run {w : World} {ops : Array Oper} {rest : List Oper} {o : Oper} {a : Act} {Q : Exit → Act → World → Prop} (hgd : o.guard = none) (s x : Operand) (t : TypeId)
    (ho : o.op = .call { callee := .builtin .append, args := #[s, x], argTypes := #[t, t] }) (v u v' : Value) (w' : World) (hs : a.eval s = v) (hx : a.eval x = u) (hr : (Builtin.append_ #[t, t] o.type #[v, u]).run Try.prog w = .ok v' w') (h : wpList Try.prog ops Q rest (a.put o.dst v') w') :
    wpList Try.prog ops Q (o :: rest) a w := by
  refine wpList_plain hgd fun K hK => ?_
  unfold Oper.wp execOp
  simp only [ho, resolve, invoke, builtin, Sem.run_bind, Sem.run_pure, Result.andThen_ok, List.map_toArray, List.map_cons, List.map_nil, hs, hx, hr]
  exact hK _ _ h

/-- The graph as it is behind a head. -/
def SU (w0 w : World) (base g bv b c : Nat) (a bt : T) (n0 : Nat) (tm : Nat → T) (fs : Nat → Nat) (ν : Nv) (n : Nat) (h : Nat → Nat) (ps is : List (Nat × Nat)) (v : Value) (X : World) : Prop := ∃ ns, UL w0 w base g bv b c a bt n0 tm fs ν n ns h ps is v X

theorem heads_le (n : Nat) (h : Nat → Nat) : heads n h ≤ n := by
  unfold heads
  have := List.countP_le_length (p := fun i => decide (h i = i)) (l := List.range n)
  simpa using this

set_option maxRecDepth 100000 in
set_option maxHeartbeats 4000000 in
theorem unite_any (w0 w : World) (base g bv b c : Nat) (a bt : T) (n0 : Nat) (tm : Nat → T) (fs : Nat → Nat) (ν : Nv) (n : Nat) (ns : List Nd) (h : Nat → Nat) (hg : GAt w0 base g bv ns ν n (.slice (some ⟨b, 0, none⟩) ns.length c) w) (hr : Gr ns n0 tm fs h) (hl : Lay a bt n0 tm fs) (hs : ∀ m ∈ ns, m.t.shape = true) (hi : UInv a bt n0 tm fs h [(0, 1)]) (hk : Blank ns) (hsm : n0 ≤ 8000) (hw : base ≤ w.heap.size) :
    Calls Try.prog 27 #[.pointer (some ⟨g, 0, none⟩)] w fun e W' => UAns w0 w base g bv b c a bt n0 tm fs ν n e W' := by
  have HST : Hid (UL w0 w base g bv b c a bt n0 tm fs ν n ns h [(0, 1)] [(0, 1)] (.slice (some ⟨w.heap.size, 0, none⟩) 1 1) (w.alloc (.cells #[.int .i64 0, .int .i64 1] 90))) := by
    have hb := below_box w (.cells #[.int .i64 0, .int .i64 1] 90)
    exact ⟨hg.keep hb, hr, hl, hs, hi, hk, World.ownsRow_lit w _ 1 (Nat.le_refl _) (by unfold maxLen; omega) rfl, Only.of_below hb, (hg.row.lt b rfl).2, hw, (Array.getElem?_eq_some_iff.1 hg.box).1, hg.map.lt, hsm⟩
  clear hg hr hl hs hi hk
  go_enter Try.func27, Try.ntmps27
  go_wp2
  go_loopg [2] (heads n0 h * 17 + 2) (fun k v wr => ∃ ns h ps, Hid (UL w0 w base g bv b c a bt n0 tm fs ν n ns h ps ps.reverse v wr) ∧ heads n0 h * 17 + ps.length < k ∧ ps.length + heads n0 h * 17 ≤ 136002)
  case atStart => exact ⟨ns, h, [(0, 1)], HST.out, by simp, by have := heads_le n0 h; simp; omega⟩
  case round =>
    rename World => wq
    obtain ⟨ns, h, ps, HL, hkk, hbd⟩ := hrel
    by_cases hne : ps = []
    · have HM : Hid (UAns w0 w base g bv b c a bt n0 tm fs ν n (.returned (.tuple #[])) wq) := by
        subst hne
        exact .inl ⟨rfl, ns, h, HL.out.gat, HL.out.gr, HL.out.inv, HL.out.blk, HL.out.only⟩
      obtain ⟨va, vc, hv⟩ := rowB_form HL.out.row
      subst hne
      subst hv
      go_wp2
      refine bodyPost_end (results_none rfl _ _ _) rfl ?_
      exact HM.out
    · obtain ⟨qs, ⟨p1, p2⟩, rfl⟩ := ps_lastP hne
      obtain ⟨m, hm⟩ : ∃ m, qs.length = m := ⟨_, rfl⟩
      have hrow := HL.out.row
      rw [List.length_append, List.length_singleton, hm] at hrow
      obtain ⟨G, cap, rfl⟩ := ownsRow_succ hrow
      have HCEL : Hid (∀ X, SU w0 w base g bv b c a bt n0 tm fs ν n h (qs ++ [(p1, p2)]) ((p1, p2) :: qs.reverse) (.slice (some ⟨G, 0, none⟩) (m + 1) cap) X → X.cell? ⟨G, m * 2, none⟩ = some (.int .i64 (p1 : Int)) ∧ X.cell? ⟨G, m * 2 + 1, none⟩ = some (.int .i64 (p2 : Int))) := fun X ⟨ns', hX⟩ => by
        have hr := hX.row
        rw [List.length_append, List.length_singleton, hm] at hr
        exact (lastP hm hr).1
      have hlt := HL.out.inv.plt (p1, p2) (by simp)
      have HLT : Hid (p1 < n0 ∧ p2 < n0) := hlt
      have HC : Hid (∀ X i, SU w0 w base g bv b c a bt n0 tm fs ν n h (qs ++ [(p1, p2)]) ((p1, p2) :: qs.reverse) (.slice (some ⟨G, 0, none⟩) (m + 1) cap) X → i < n0 → Calls Try.prog 54 #[.pointer (some ⟨g, 0, none⟩), .int .i64 (i : Int)] X fun e X' => e = .returned (.int .i64 (h i : Int)) ∧ SU w0 w base g bv b c a bt n0 tm fs ν n h (qs ++ [(p1, p2)]) ((p1, p2) :: qs.reverse) (.slice (some ⟨G, 0, none⟩) (m + 1) cap) X') := fun X i ⟨ns', hX⟩ hi => hX.head_any hi
      have hd : SU w0 w base g bv b c a bt n0 tm fs ν n h (qs ++ [(p1, p2)]) ((p1, p2) :: qs.reverse) (.slice (some ⟨G, 0, none⟩) (m + 1) cap) wq.drew := ⟨ns, by have := HL.out.keep ((Below.refl wq.heap.size wq).drew); rw [List.reverse_append] at this; simpa using this⟩
      have hc1 := HC.out wq.drew p1 hd hlt.1
      have hcap : m + 1 ≤ cap := cap6 hrow
      have hm2 : m ≤ 1073741824 := by rw [List.length_append, hm] at hbd; simp at hbd; omega
      have HB : Hid (heads n0 h * 17 + (m + 1) < gk ∧ m + 1 + heads n0 h * 17 ≤ 136002) := by rw [List.length_append, hm] at hbd hkk; exact ⟨hkk, hbd⟩
      have HMM := hid hm
      have i0 : (0 : Int) ≤ (m : Int) := Int.natCast_nonneg m
      have i1 : (m : Int) < (m : Int) + 1 := by omega
      have i2 : (m : Int) ≤ (cap : Int) := by omega
      clear hrow hne hm hlt hkk hbd
      go_wp2
      go_region_held3 (fun X => X.cell? ⟨G, m * 2, none⟩ = some (.int .i64 (p1 : Int)) ∧ X.cell? ⟨G, m * 2 + 1, none⟩ = some (.int .i64 (p2 : Int))) (first | exact HCEL.out _ hs2 | exact HCEL.out _ hs1 | exact HCEL.out _ hd) (first | (go_at_call 54; refine hc2.mono ?_; rintro e W2 ⟨rfl, hs2⟩) | (go_at_call 54; refine hc1.mono ?_; rintro e W1 ⟨rfl, hs1⟩; have hc2 := HC.out W1 p2 hs1 HLT.out.2; clear hc1))
      obtain ⟨ns2, hU2⟩ := hs2
      have HU : Hid (UL w0 w base g bv b c a bt n0 tm fs ν n ns2 h qs ((p1, p2) :: qs.reverse) (.slice (some ⟨G, 0, none⟩) m cap) W2) := by
        have hr := hU2.row
        rw [List.length_append, List.length_singleton, HMM.out] at hr
        exact { hU2 with row := by rw [HMM.out]; exact (lastP HMM.out hr).2 }
      clear hU2 hs1 hd hc2
      by_cases e : h p1 = h p2
      · have e' : ((h p1 : Int) != (h p2 : Int)) = false := by rw [bne_eq_false_iff_eq, e]
        have HE : Hid (UL w0 w base g bv b c a bt n0 tm fs ν n ns2 h qs qs.reverse (.slice (some ⟨G, 0, none⟩) m cap) W2) := { HU.out with inv := HU.out.inv.drop e }
        clear e
        go_wp2
        go_roundg (heads n0 h * 17 + (m + 1))
        case measure => exact HB.out.1
        case rel => exact ⟨ns2, h, qs, HE.out, by rw [HMM.out]; omega, by rw [HMM.out]; have := HB.out.2; omega⟩
      · have e' : ((h p1 : Int) != (h p2 : Int)) = true := by rw [bne_iff_ne]; omega
        have hj := HU.out.join_any e
        clear e
        go_wp2_with fail
        refine hj.mono ?_
        rintro e W3 (⟨u, news, ns', h', rfl, hU3, hlt3, hn3, hsrc⟩ | ⟨rfl, ho, hno⟩)
        · have hb2 := HB.out.2
          obtain ⟨v4, W4, hap, hrow4, hgr4, _⟩ := app_src hU3.row hsrc (by rw [HMM.out]; omega) hU3.only.size 91
          have HE : Hid (UL w0 w base g bv b c a bt n0 tm fs ν n ns' h' (qs ++ news) (qs ++ news).reverse v4 W4) := by
            have := hU3.push hrow4 hgr4
            rw [List.reverse_append]
            exact this
          have HN : Hid (heads n0 h' < heads n0 h ∧ news.length ≤ 16) := ⟨hlt3, hn3⟩
          obtain ⟨a4, c4, rfl⟩ := rowB_form hrow4
          have HAP := hid hap
          clear hU3 hsrc hrow4 hgr4 hlt3 hn3 hj hap
          go_wp2_with (at_builtin; refine wpList_append_run rfl _ _ 91 rfl _ _ _ _ rfl rfl HAP.out ?_)
          go_roundg (heads n0 h' * 17 + (m + news.length) + 1)
          case measure => have h1 := HB.out.1; have h2 := HN.out; omega
          case rel => exact ⟨ns', h', qs ++ news, HE.out, by rw [List.length_append, HMM.out]; omega, by rw [List.length_append, HMM.out]; have h2 := HN.out; omega⟩
        · exact ⟨rfl, .inr ⟨rfl, ho, hno⟩⟩

end Go.Proofs.Ytblfbmdnkgebdaa
