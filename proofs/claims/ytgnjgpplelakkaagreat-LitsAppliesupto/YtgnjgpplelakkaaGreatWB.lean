import Derived.Test.YtgnjgpplelakkaaGreatWS
import Derived.Test.YtgnjgpplelakkaaGreatNR
import Derived.Test.YtgnjgpplelakkaaGreatQK
import Derived.Test.YtgnjgpplelakkaaGreatTB

/-
  lits.within: the binds of a term's own variables.
-/
namespace Go.Proofs.YtgnjgpplelakkaaGreat
open Go.RowKit

/-- The bind of a variable, if there is one. -/
def bindOf (s : List Bd) (n : Int) : Option Bd := s.find? fun b => decide (b.1 = n)
/-- The binds of those variables. -/
def wthn (s : List Bd) (vs : List Int) : List Bd := vs.filterMap (bindOf s)

theorem bindOf_some {s : List Bd} {n : Int} {x : Bd} (h : bindOf s n = some x) : x ∈ s ∧ x.1 = n := by
  unfold bindOf at h
  exact ⟨List.mem_of_find?_eq_some h, by simpa using List.find?_some h⟩

theorem bindOf_yes {s : List Bd} (hr : Rising s) {n : Int} {p : Nat} (h : p < s.length) (e : s[p].1 = n) : bindOf s n = some s[p] := by
  cases hf : bindOf s n with
  | none =>
    unfold bindOf at hf
    have := List.find?_eq_none.1 hf s[p] (List.getElem_mem h)
    simp [e] at this
  | some b =>
    obtain ⟨hb, he⟩ := bindOf_some hf
    obtain ⟨q, hq, rfl⟩ := List.getElem_of_mem hb
    rcases Nat.lt_trichotomy p q with h1 | h1 | h1
    · have := hr p q hq h1; omega
    · subst h1; rfl
    · have := hr q p h h1; omega

theorem bindOf_no {s : List Bd} {n : Int} (h : ∀ k (h : k < s.length), s[k].1 ≠ n) : bindOf s n = none := by
  unfold bindOf
  rw [List.find?_eq_none]
  intro x hx
  obtain ⟨k, hk, rfl⟩ := List.getElem_of_mem hx
  simpa using h k hk

theorem bindOf_wthn {s : List Bd} {vs : List Int} {n : Int} (h : n ∈ vs) : bindOf (wthn s vs) n = bindOf s n := by
  induction vs with
  | nil => cases h
  | cons m r ih =>
    have step : wthn s (m :: r) = (match bindOf s m with | some x => x :: wthn s r | none => wthn s r) := by
      unfold wthn
      rw [List.filterMap_cons]
      cases bindOf s m <;> rfl
    rw [step]
    by_cases e : m = n
    · subst e
      cases hm : bindOf s m with
      | some x =>
        have := (bindOf_some hm).2
        simp only
        unfold bindOf
        rw [List.find?_cons, decide_eq_true this]
      | none =>
        simp only
        refine bindOf_no fun k hk he => ?_
        have hx : (wthn s r)[k] ∈ wthn s r := List.getElem_mem hk
        obtain ⟨z, _, hz⟩ := List.mem_filterMap.1 hx
        have := (bindOf_some hz).2
        rw [this] at he
        subst he
        rw [hm] at hz
        cases hz
    · have hr : n ∈ r := by
        rcases List.mem_cons.1 h with rfl | h
        · exact absurd rfl e
        · exact h
      cases hm : bindOf s m with
      | some x =>
        have hx := (bindOf_some hm).2
        simp only
        rw [← ih hr]
        unfold bindOf
        rw [List.find?_cons, decide_eq_false (by rw [hx]; exact e)]
      | none => exact ih hr

theorem img_bindOf (l : List Bd) (n : Int) : img l n = ((bindOf l n).map (·.2)).getD (var n) := rfl

theorem img_wthn {s : List Bd} {vs : List Int} {n : Int} (h : n ∈ vs) : img (wthn s vs) n = img s n := by
  rw [img_bindOf, img_bindOf, bindOf_wthn h]

theorem app_congr (σ τ : Int → T) (t : T) : (∀ n ∈ t.vs, σ n = τ n) → t.app σ = t.app τ := by
  induction t using T.ind with
  | _ t ih =>
    intro h
    rw [T.app_eq, T.app_eq]
    by_cases h0 : t.fn.size = 0
    · rw [if_pos h0, if_pos h0]
      exact h _ (by rw [T.vs_eq, if_pos h0]; simp)
    · rw [if_neg h0, if_neg h0, List.map_congr_left fun a ha => ih a ha fun n hn => h n (by
        rw [T.vs_eq, if_neg h0, List.nil_append, List.mem_flatten]
        exact ⟨_, List.mem_map.2 ⟨a, ha, rfl⟩, hn⟩)]

/-- The variables of a term, rising, each once. -/
def tvs (t : T) : List Int := t.vs.foldl wth []
theorem tvs_rise (t : T) : Rise (tvs t) ∧ ∀ n, n ∈ tvs t ↔ n ∈ t.vs := by
  obtain ⟨h1, h2⟩ := wths_rise t.vs [] List.Pairwise.nil
  exact ⟨h1, fun n => (h2 n).trans (by simp)⟩

theorem app_wthn (s : List Bd) (t : T) : t.app (img (wthn s (tvs t))) = t.app (img s) := app_congr _ _ t fun n hn => img_wthn (((tvs_rise t).2 n).2 hn)

/-- What makes a substitution. -/
theorem isSub_of {l : List Bd} (h1 : l.length ≤ 4000) (h2 : l.Pairwise fun a b => a.1 < b.1) (h3 : ∀ x ∈ l, 0 ≤ x.1 ∧ x.1 < 1000000 ∧ own1 x = false ∧ x.2.rightW = 0) : IsSub l := by
  refine ⟨h1, fun j hj => ?_⟩
  obtain ⟨a0, a1, a2, a3⟩ := h3 _ (List.getElem_mem hj)
  refine okb_true ?_ a1 a2 a3
  cases j with
  | zero => simp [prv]; omega
  | succ j =>
    rw [prv_succ l j (by omega)]
    exact List.pairwise_iff_getElem.1 h2 j (j + 1) (by omega) hj (by omega)

theorem isSub_each {l : List Bd} (h : IsSub l) : ∀ x ∈ l, 0 ≤ x.1 ∧ x.1 < 1000000 ∧ own1 x = false ∧ x.2.rightW = 0 := by
  intro x hx
  obtain ⟨j, hj, rfl⟩ := List.getElem_of_mem hx
  have hk := h.2 j hj
  have hp := prv_ge l j (by omega) (fun i hi _ => h.2 i hi)
  unfold okb at hk
  simp only [Bool.and_eq_true, decide_eq_true_eq, Bool.not_eq_true'] at hk
  exact ⟨by omega, hk.1.1.2, hk.1.2, hk.2⟩

theorem wthn_pair (s : List Bd) : ∀ (vs : List Int), Rise vs → (wthn s vs).Pairwise (fun a b => a.1 < b.1)
  | [], _ => List.Pairwise.nil
  | m :: r, h => by
    have ih := wthn_pair s r (List.pairwise_cons.1 h).2
    unfold wthn
    rw [List.filterMap_cons]
    cases hm : bindOf s m with
    | none => exact ih
    | some x =>
      refine List.pairwise_cons.2 ⟨fun y hy => ?_, ih⟩
      obtain ⟨z, hz, hzy⟩ := List.mem_filterMap.1 hy
      have e1 := (bindOf_some hm).2
      have e2 := (bindOf_some hzy).2
      have := (List.pairwise_cons.1 h).1 z hz
      omega

theorem wthn_sub {s : List Bd} (h : IsSub s) {vs : List Int} (hv : Rise vs) (hl : vs.length ≤ 4000) : IsSub (wthn s vs) := by
  refine isSub_of (Nat.le_trans (List.length_filterMap_le _ _) hl) (wthn_pair s vs hv) fun x hx => ?_
  obtain ⟨n, _, hn⟩ := List.mem_filterMap.1 hx
  exact isSub_each h x (bindOf_some hn).1

theorem wthn_mem {s : List Bd} {vs : List Int} {x : Bd} (h : x ∈ wthn s vs) : x ∈ s := by
  obtain ⟨n, _, hn⟩ := List.mem_filterMap.1 h
  exact (bindOf_some hn).1

theorem wthn_succ (s : List Bd) (vs : List Int) (i : Nat) (h : i < vs.length) : wthn s (vs.take (i + 1)) = wthn s (vs.take i) ++ (match bindOf s vs[i] with | some x => [x] | none => []) := by
  unfold wthn
  rw [List.take_succ_eq_append_getElem h, List.filterMap_append]
  congr 1
  rw [List.filterMap_cons]
  cases bindOf s vs[i] <;> rfl

end Go.Proofs.YtgnjgpplelakkaaGreat

/-
  lits.within: its walk.
-/
namespace Go.Proofs.YtgnjgpplelakkaaGreat
open Go.RowKit

theorem int_get {W : World} {base : Nat} {zs : List Int} {a : Option Addr} {c : Nat} (h : W.ownsRow base 3 1 (.slice a zs.length c) zs.length (zs.map (Value.int .i64))) {i : Nat} (hi : i < zs.length) : ∃ g, a = some ⟨g, 0, none⟩ ∧ g < W.heap.size ∧ W.cell? ⟨g, i, none⟩ = some (.int .i64 zs[i]) := by
  rcases h.2 with ⟨e0, h0⟩ | ⟨g, cap, cur, e0, hb, hg, hn, hm, hs, ht⟩
  · omega
  · cases e0
    have := h.cells rfl i (.int .i64 zs[i]) (by simp [hi])
    have ea : (⟨g, 0, none⟩ : Addr).add i = ⟨g, i, none⟩ := by unfold Addr.add; split <;> simp_all
    rw [ea] at this
    have hc : W.cell? ⟨g, i, none⟩ = some (.int .i64 zs[i]) := this
    exact ⟨g, rfl, World.block_lt_of_cell? W _ hc, hc⟩

/-- What stands in within's loop. -/
structure WnI (W2 : World) (s : List Bd) (zs : List Int) (i : Nat) (v : Value) (ps : List (Bd × Value)) (W : World) : Prop where
  own : OwnB W2 v ps W
  map : ps.map (·.1) = wthn s (zs.take i)
  args : ∀ p ∈ ps, ArgsAt W2 p.2 p.1.2.args

theorem WnI.len {W2 : World} {s : List Bd} {zs : List Int} {i : Nat} {v : Value} {ps : List (Bd × Value)} {W : World} (h : WnI W2 s zs i v ps W) : ps.length ≤ i := by
  have h1 : ps.length = (wthn s (zs.take i)).length := by rw [← h.map, List.length_map]
  have h2 : (wthn s (zs.take i)).length ≤ (zs.take i).length := List.length_filterMap_le _ _
  rw [List.length_take] at h2
  omega

theorem rowS_form {W : World} {b : Nat} {e : TypeId} {s : Nat} {v : Value} {n : Nat} {xs : List Value} (h : W.ownsRow b e s v n xs) : ∃ a c, v = .slice a n c := by
  rcases h.2 with ⟨rfl, h0⟩ | ⟨g, cap, cur, rfl, _⟩
  · exact ⟨none, 0, by rw [h0]⟩
  · exact ⟨_, _, rfl⟩

set_option maxRecDepth 100000 in
set_option maxHeartbeats 4000000 in
theorem within_any (s : List Bd) (hs : IsSub s) (t : T) (hsh : Short t) (hpl : (t.parts []).length ≤ 1048576) (hvl : (tvs t).length ≤ 1048576) (v sl : Value) (w : World) (hb : BindsAt w v s) (ha : ArgsAt w sl t.args) :
    Calls Tryz.prog 23 #[v, tval t sl] w fun e w' => ∃ v', e = .returned v' ∧ BindsAt w' v' (wthn s (tvs t)) ∧ Below w.heap.size w w' := by
  have hb1 := below_box w (tbox t sl)
  have hvars := tvars_any t sl (w.alloc (tbox t sl)) (ArgsAt.keep hb1 (Nat.le_refl _) ha) hsh hpl
  obtain ⟨sa, sc, rfl, _, _⟩ := ha.slice
  obtain ⟨a, c, rfl⟩ := hb.slice
  obtain ⟨t0, t1, t2⟩ := tbox_cells w t (.slice sa t.args.length sc)
  obtain ⟨zs, hzs⟩ : ∃ zs, tvs t = zs := ⟨_, rfl⟩
  have hz' : t.vs.foldl wth [] = zs := hzs
  rw [hz'] at hvars
  rw [hzs] at hvl ⊢
  have HR : Hid (Rising s) := hs.rising
  have hsl := hs.1
  have HBD : Hid (BindsAt w (.slice a s.length c) s) := hb
  have HB1 : Hid (Below w.heap.size w (w.alloc (tbox t (.slice sa t.args.length sc)))) := hb1
  obtain ⟨i0, hi0, hz0, hz1, hz2⟩ := info_parts Tryz.info30
  clear hb ha hzs hz' hs hpl hsh hb1
  go_enter Tryz.func23, Tryz.ntmps23
  go_wp2_with fail
  refine hvars.mono ?_
  rintro e W2 ⟨v2, k2, rfl, hrow, hb2⟩
  have hk : zs.length = k2 := by simpa using hrow.1
  subst hk
  obtain ⟨za, zc, rfl⟩ := rowS_form hrow
  have HB2 : Hid (Below w.heap.size w W2) := HB1.out.trans (hb2.mono HB1.out.size)
  have HZ : Hid (W2.ownsRow w.heap.size 3 1 (.slice za zs.length zc) zs.length (zs.map (Value.int .i64))) := by
    refine ⟨hrow.1, hrow.2.imp id fun ⟨g, cap, cur, e, hg, r⟩ => ⟨g, cap, cur, e, ?_, r⟩⟩
    simp at hg
    omega
  have HBW : Hid (BindsAt W2 (.slice a s.length c) s) := HBD.out.keep HB2.out
  clear hrow hb2 hvars t0 t1 t2 HBD HB1
  go_wp2
  go_loopw [5, 13] (fun v5 vi wr => ∃ (i : Nat) (ps : List (Bd × Value)), vi = .int .i64 i ∧ i ≤ zs.length ∧ WnI W2 s zs i v5 ps wr) (fun _ vi _ => zs.length - (intOf vi).toNat)
  case atStart =>
    exact ⟨0, [], rfl, Nat.zero_le _, ⟨World.ownsRow_nil _ _ _ _, Below.refl _ _⟩, rfl, by simp⟩
  case round =>
    obtain ⟨i, ps, rfl, hi, hI⟩ := hrel
    obtain ⟨pa, pc, rfl⟩ := rowS_form hI.own.row
    have hlen := hI.len
    by_cases hlt : i < zs.length
    · obtain ⟨g, rfl, hgl, hcz⟩ := int_get HZ.out hlt
      have hcz' := kc hI.own.bel hgl hcz
      have hstep := wthn_succ s zs i hlt
      obtain ⟨z, hz⟩ : ∃ z, zs[i] = z := ⟨_, rfl⟩
      rw [hz] at hcz' hstep
      have HST : Hid (wthn s (zs.take (i + 1)) = wthn s (zs.take i) ++ (match bindOf s z with | some x => [x] | none => [])) := hstep
      have hsr := wsearch_any s z (.slice a s.length c) wr (HBW.out.keep hI.own.bel) HR.out hsl
      have HI : Hid (WnI W2 s zs i (.slice pa ps.length pc) ps wr) := hI
      have hig : ((i : Int) < (zs.length : Int)) := by omega
      clear hcz hz hstep hI
      go_wp2_with fail
      refine hsr.mono ?_
      rintro e W4 ⟨⟨p, f, rfl, hf⟩, hb4⟩
      have HO4 : Hid (OwnB W2 (.slice pa ps.length pc) ps W4) := HI.out.own.keep hb4
      cases f
      · have HN : Hid (bindOf s z = none) := bindOf_no (hf.no rfl)
        clear hf hsr
        go_wp2
        go_roundw
        case rel => exact ⟨i + 1, ps, by go_num, by omega, HO4.out, by rw [HST.out, HN.out, HI.out.map]; simp, HI.out.args⟩
        case measure => simp [intOf]; omega
      · obtain ⟨hpl, hpe⟩ := hf.yes rfl
        have HN : Hid (bindOf s z = some s[p]) := bindOf_yes HR.out hpl hpe
        obtain ⟨bb, o, sb, e1, hB⟩ := HBW.out.nth hpl
        cases e1
        have hsub := hB.sub
        have hB4 := hB.keep HO4.out.bel
        obtain ⟨x, hx⟩ : ∃ x, s[p] = x := ⟨_, rfl⟩
        simp only [hx] at hB4 HN hsub
        obtain ⟨xa, xc, rfl, _, _⟩ := hsub.slice
        obtain ⟨m0, m1, m2, m3⟩ : W4.cell? ⟨bb, o + p * 4, none⟩ = some (.int .i64 x.1) ∧ W4.cell? ⟨bb, o + p * 4 + 1, none⟩ = some (.int .i64 x.2.v) ∧ W4.cell? ⟨bb, o + p * 4 + 2, none⟩ = some (.string x.2.fn) ∧ W4.cell? ⟨bb, o + p * 4 + 3, none⟩ = some (.slice xa x.2.args.length xc) := ⟨hB4.c0, hB4.c1, hB4.c2, hB4.c3⟩
        have hpi : ((p : Int) < (s.length : Int)) := by omega
        have HSUB : Hid (ArgsAt W2 (.slice xa x.2.args.length xc) x.2.args) := hsub
        have HR4 : Hid ((W4.alloc (.cells #[.int .i64 x.1, .int .i64 x.2.v, .string x.2.fn, (.slice xa x.2.args.length xc)] 30)).ownsRow W2.heap.size 30 4 (.slice pa ps.length pc) ps.length (flatB ps)) := (HO4.out.keep (below_box W4 _)).row
        have HS4 : Hid (W2.heap.size ≤ (W4.alloc (.cells #[.int .i64 x.1, .int .i64 x.2.v, .string x.2.fn, (.slice xa x.2.args.length xc)] 30)).heap.size) := Nat.le_trans HO4.out.bel.size (by simp)
        clear hf hsr hB hB4 hsub hx hpe
        go_wp2_with (at_builtin; refine wpList_append_own_at _ rfl _ _ 22 rfl W2.heap.size 30 i0 (.agg #[.int .i64 0, .int .i64 0, .string ⟨#[]⟩, .slice none 0 0]) 4 56 Tryz.underlying22 hi0 hz0 hz1 hz2 rfl (by decide) _ _ _ rfl HR4.out ⟨W4.heap.size, 0, none⟩ 1 1 [.int .i64 x.1, .int .i64 x.2.v, .string x.2.fn, (.slice xa x.2.args.length xc)] rfl rfl (lit4 W4 _ _ _ _ 30) (by simp [Value.oneCell']) (by unfold maxLen; omega) (by omega) HS4.out ?_; intro v5 w5 h2 h3 _ _; obtain ⟨pa5, pc5, rfl⟩ := rowS_form h2; have HO5 : Hid (OwnB W2 (.slice pa5 (ps.length + 1) pc5) (ps ++ [(x, (.slice xa x.2.args.length xc))]) w5) := HO4.out.push (x, (.slice xa x.2.args.length xc)) _ w5 h2 _ h3; clear h2 h3)
        go_roundw
        case rel =>
          refine ⟨i + 1, ps ++ [(x, (.slice xa x.2.args.length xc))], by go_num, by omega, HO5.out, by rw [HST.out, HN.out, List.map_append, HI.out.map]; rfl, fun q hq => ?_⟩
          rcases List.mem_append.1 hq with hq | hq
          · exact HI.out.args q hq
          · simp at hq
            subst hq
            exact HSUB.out
        case measure => simp [intOf]; omega
    · have he : zs.take i = zs := List.take_of_length_le (by omega)
      have HE : Hid (BindsAt wr (.slice pa ps.length pc) (wthn s zs) ∧ Below w.heap.size w wr) := by
        refine ⟨?_, HB2.out.trans (hI.own.bel.mono HB2.out.size)⟩
        have := binds_of_row hI.own.row (fun p hp => ArgsAt.keep hI.own.bel (Nat.le_refl _) (hI.args p hp))
        rw [hI.map, he] at this
        exact this
      clear hI he
      go_wp2
      go_ret
      exact ⟨_, rfl, HE.out⟩

end Go.Proofs.YtgnjgpplelakkaaGreat
