/-
  unify.listed, of terms.
-/
import Derived.Test.YtijihmncbaoklaaGreatAP
import Derived.Test.YtijihmncbaoklaaGreatPP
import Derived.Test.YtijihmncbaoklaaGreatPM
import Derived.Test.YtijihmncbaoklaaGreatPK
namespace Go.Proofs.YtijihmncbaoklaaGreat
open Go.RowKit Go.Maps

theorem ArgsFr.toP {n : Nat} {P : Nat → Prop} {W : World} {sl : Value} {l : List T} (h : ArgsFr n W sl l) (hP : ∀ b, n ≤ b → P b) : ArgsP P W sl l := by
  induction h with
  | mk a c l s hc hm at0 sub ih =>
    refine .mk a c l s hc hm (fun h0 => ?_) ih
    obtain ⟨b, o, hn, hlt, rfl, hcell⟩ := at0 h0
    exact ⟨b, o, hP b hn, hlt, rfl, hcell⟩

/-- A bind for each of these variables, but where it is itself. -/
def bindOf (τ : Ta) (k : Int) : Option Bd := match τ k with
  | some t => if uvar t = true ∧ t.v = k then none else some (k, t)
  | none => none
def listB (τ : Ta) (ks : List Int) : List Bd := ks.filterMap (bindOf τ)
theorem listB_snoc (τ : Ta) (ks : List Int) (k : Int) : listB τ (ks ++ [k]) = listB τ ks ++ (bindOf τ k).toList := by
  unfold listB
  rw [List.filterMap_append]
  cases h : bindOf τ k <;> simp [h]
theorem listB_len (τ : Ta) (ks : List Int) : (listB τ ks).length ≤ ks.length := List.length_filterMap_le _ _

/-- Binds that lie in the blocks from n0 up to n1. -/
def BIn (n0 n1 : Nat) (W : World) (v : Value) (l : List Bd) : Prop := ∀ W', n1 ≤ W'.heap.size → (∀ k, n0 ≤ k → k < n1 → W'.heap[k]? = W.heap[k]?) → BindsAt W' v l
theorem BIn.at {n0 n1 : Nat} {W : World} {v : Value} {l : List Bd} (h : BIn n0 n1 W v l) (hs : n1 ≤ W.heap.size) : BindsAt W v l := h W hs fun _ _ _ => rfl
theorem BIn.keep {n0 n1 : Nat} {W W1 : World} {v : Value} {l : List Bd} (h : BIn n0 n1 W v l) (hk : ∀ k, n0 ≤ k → k < n1 → W1.heap[k]? = W.heap[k]?) : BIn n0 n1 W1 v l :=
  fun W' hs h' => h W' hs fun k h1 h2 => (h' k h1 h2).trans (hk k h1 h2)
theorem BIn.wider {n0 n1 m0 : Nat} {W : World} {v : Value} {l : List Bd} (h : BIn n0 n1 W v l) (hm : m0 ≤ n0) : BIn m0 n1 W v l :=
  fun W' hs h' => h W' hs fun k h1 h2 => h' k (Nat.le_trans hm h1) h2

/-- What listed's loop keeps. -/
structure QI (w : World) (τ : Ta) (ks : List Int) (i : Nat) (ps : List (Bd × Value)) (v : Value) (W : World) : Prop where
  own : OwnB w v ps W
  ls : ps.map (·.1) = listB τ (ks.take i)
  args : ∀ p ∈ ps, ArgsP (fun b => v.ownBlock ≠ some b ∧ w.heap.size ≤ b) W p.2 p.1.2.args

theorem QI.start (w : World) (τ : Ta) (ks : List Int) : QI w τ ks 0 [] (.slice none 0 0) w :=
  ⟨⟨World.ownsRow_nil _ _ _ _, Below.refl _ _⟩, by simp [listB], by simp⟩

theorem QI.len {w : World} {τ : Ta} {ks : List Int} {i : Nat} {ps : List (Bd × Value)} {v : Value} {W : World} (h : QI w τ ks i ps v W) : ps.length ≤ i := by
  have h1 := congrArg List.length h.ls
  have h2 := listB_len τ (ks.take i)
  rw [List.length_map] at h1
  rw [List.length_take] at h2
  omega

/-- The variable itself: nothing is added. -/
theorem QI.skip {w : World} {τ : Ta} {ks : List Int} {i : Nat} {ps : List (Bd × Value)} {v : Value} {W W' : World} (h : QI w τ ks i ps v W) (hi : i < ks.length) (hn : bindOf τ ks[i] = none) (hb : Below W.heap.size W W') : QI w τ ks (i + 1) ps v W' :=
  ⟨h.own.keep hb, by rw [List.take_succ_eq_append_getElem hi, listB_snoc, hn, h.ls]; simp, fun p hp => (h.args p hp).keep hb.size (fun k hk hl => ⟨hk, hb.block k hl⟩)⟩

/-- One bind more. -/
theorem QI.push {w : World} {τ : Ta} {ks : List Int} {i : Nat} {ps : List (Bd × Value)} {v v' : Value} {W Y Z W' : World} (h : QI w τ ks i ps v W) (hi : i < ks.length) {k : Int} {t : T} (hk : ks[i] = k) (hn : bindOf τ k = some (k, t)) {s : Value} (hs : ArgsFr W.heap.size Y s t.args) (hb : Below W.heap.size W Y) (hz : Below Y.heap.size Y Z) (o : Obj)
    (hrow : W'.ownsRow w.heap.size 116 4 v' (ps.length + 1) (flatB ps ++ [.int .i64 k, .int .i64 t.v, .string t.fn, s])) (hg : (Z.alloc o).grownBy W' v.ownBlock) (ho : v'.ownBlock = v.ownBlock ∨ v'.ownBlock = some (Z.alloc o).heap.size) : QI w τ ks (i + 1) (ps ++ [((k, t), s)]) v' W' := by
  have hbz : Below W.heap.size W Z := hb.trans (hz.mono hb.size)
  have hza : Below Z.heap.size Z (Z.alloc o) := below_box Z o
  have keep : ∀ b, v.ownBlock ≠ some b → b < Z.heap.size → v'.ownBlock ≠ some b ∧ W'.heap[b]? = Z.heap[b]? := fun b hv hl => by
    refine ⟨?_, (hg.block b (by simp; omega) (fun e => hv e.symm)).trans (hza.block b hl)⟩
    rcases ho with e | e
    · rw [e]; exact hv
    · rw [e]; intro e2; have := Option.some.inj e2; simp at this; omega
  refine ⟨(h.own.keep hbz).push ((k, t), s) v' W' hrow o hg, ?_, fun p hp => ?_⟩
  · rw [List.take_succ_eq_append_getElem hi, listB_snoc, hk, hn, List.map_append, h.ls]
    simp
  · have hsz : Z.heap.size ≤ W'.heap.size := Nat.le_trans (by simp) hg.size
    rcases List.mem_append.1 hp with hp | hp
    · refine (h.args p hp).keep (Nat.le_trans hbz.size hsz) (fun b hv hl => ?_)
      obtain ⟨h1, h2⟩ := keep b hv.1 (Nat.lt_of_lt_of_le hl hbz.size)
      exact ⟨⟨h1, hv.2⟩, h2.trans (hbz.block b hl)⟩
    · simp only [List.mem_singleton] at hp
      subst hp
      have hlt := fun g e => (h.own.row.lt g e).2
      refine (hs.toP (P := fun b => v.ownBlock ≠ some b ∧ w.heap.size ≤ b) (fun b hbW => ⟨fun e => by have := hlt b e; omega, Nat.le_trans h.own.bel.size hbW⟩)).keep (Nat.le_trans hz.size hsz) (fun b hv hl => ?_)
      obtain ⟨h1, h2⟩ := keep b hv.1 (Nat.lt_of_lt_of_le hl hz.size)
      exact ⟨⟨h1, hv.2⟩, h2.trans (hz.block b hl)⟩

theorem QI.last {w : World} {τ : Ta} {ks : List Int} {i : Nat} {ps : List (Bd × Value)} {v : Value} {W : World} (h : QI w τ ks i ps v W) (hi : ks.length ≤ i) : BIn w.heap.size W.heap.size W v (listB τ ks) := by
  intro W' hsz hsame
  have h1 := h.ls
  rw [List.take_of_length_le hi] at h1
  rw [← h1]
  exact binds_of_row (row6_keep h.own.row (fun g hg => hsame g (h.own.row.lt g hg).1 (h.own.row.lt g hg).2)) (fun p hp => ((h.args p hp).keep (P' := fun _ => True) hsz (fun k hk hl => ⟨trivial, hsame k hk.2 hl⟩)).args)

theorem row_nth {W : World} {base c : Nat} {ka : Option Addr} {ks : List Int} (h : W.ownsRow base 3 1 (.slice ka ks.length c) ks.length (flatS ks)) {i : Nat} (hi : i < ks.length) : ∃ g, ka = some ⟨g, 0, none⟩ ∧ g < W.heap.size ∧ W.cell? ⟨g, i, none⟩ = some (.int .i64 ks[i]) := by
  rcases h.2 with ⟨e, h0⟩ | ⟨g, cap, cur, e, hb, hg, _⟩
  · omega
  · cases e
    refine ⟨g, rfl, (Array.getElem?_eq_some_iff.1 hg).1, ?_⟩
    rw [h.cellAt i (by omega)]
    simp [flatS, hi]

theorem bind_none {τ : Ta} {k : Int} {t : T} (h : τ k = some t) (hv : uvar t = true) (hk : t.v = k) : bindOf τ k = none := by
  simp only [bindOf, h, hv, hk, and_self, if_true]
theorem bind_some {τ : Ta} {k : Int} {t : T} (h : τ k = some t) (hv : uvar t = false ∨ t.v ≠ k) : bindOf τ k = some (k, t) := by
  simp only [bindOf, h]
  rw [if_neg]
  rintro ⟨h1, h2⟩
  rcases hv with e | e
  · rw [h1] at e; cases e
  · exact e h2

theorem enter81 : ∀ args w, (callFunc 117 args).run Tryz.prog w = .ok (.enter 117 args) w := enters_of Tryz.func117 (by kernel_rfl) rfl

set_option maxRecDepth 100000 in
set_option maxHeartbeats 4000000 in
theorem listed_any (bm n : Nat) (σ : Sg) (w : World) (hm : MapIs w 3 bm (pm σ) n) (hn : n ≤ 1000000) (hs : ∀ x t sl, σ x = some (t, sl) → ArgsAt w sl t.args ∧ Fit64 x) (hz : ∀ x t sl, σ x = some (t, sl) → t.size ≤ 1048576) :
    Calls Tryz.prog 61 #[.map (some bm), .func (.func 62) #[] #[]] w fun e W => ∃ v ks, e = .returned v ∧ RiseKeys σ ks ∧ BIn w.heap.size W.heap.size W v (listB σ.ta ks) ∧ Below w.heap.size w W := by
  have hbk := below_box w (.cells #[.map (some bm)] 121)
  obtain ⟨ck, _⟩ := one_facts (MapKept.heap_alloc w (.cells #[.map (some bm)] 121)).1
  have hfit : ∀ x, σ x ≠ none → Fit64 x := fun x hx => by
    obtain ⟨⟨t, sl⟩, e⟩ := Option.ne_none_iff_exists'.1 hx
    exact (hs x t sl e).2
  have hsort := sorted_any 117 #[.pointer (some ⟨w.heap.size, 0, none⟩)] enter81 σ n hn (w.alloc (.cells #[.map (some bm)] 121)) (fun W hW => keys1_any (w.alloc (.cells #[.map (some bm)] 121)) w.heap.size bm σ n hfit (by have := hm.lt; simp; omega) (hm.same (hbk.block bm hm.lt)) W hW (kc hW (by simp) ck))
  have hkeys := keys_any (some bm) w
  have HM : Hid (MapIs w 3 bm (pm σ) n ∧ Below w.heap.size w (w.alloc (.cells #[.map (some bm)] 121))) := ⟨hm, hbk⟩
  obtain ⟨i0, hi0, hz0, hz1, hz2⟩ := info_parts Tryz.info116
  clear hm hbk ck hfit
  go_enter Tryz.func61, Tryz.ntmps61
  go_wp2_with (first
    | (go_at_call 89; refine hsort.mono ?_; rintro e W1 ⟨kv, ks, rfl, hR, hkl, hrow, hb1⟩; obtain ⟨ka, kc', rfl⟩ := rowB_form hrow; have HR : Hid (RiseKeys σ ks ∧ W1.ownsRow (w.alloc (.cells #[.map (some bm)] 121)).heap.size 3 1 (.slice ka ks.length kc') ks.length (flatS ks) ∧ Below w.heap.size w W1) := ⟨hR, hrow, HM.out.2.trans (hb1.mono (by simp))⟩; clear hR hrow hb1 hsort)
    | (go_at_call 90; refine hkeys.mono ?_; rintro e w' ⟨rfl, rfl⟩))
  go_loopw [5, 13] (fun vo vi wr => ∃ (i : Nat) (ps : List (Bd × Value)), vi = .int .i64 i ∧ i ≤ ks.length ∧ Hid (QI W1 σ.ta ks i ps vo wr)) (fun _ vi _ => ks.length - (intOf vi).toNat)
  case atStart => exact ⟨0, [], rfl, Nat.zero_le _, QI.start W1 σ.ta ks⟩
  case round =>
    obtain ⟨i, ps, rfl, hi, HQ⟩ := hrel
    obtain ⟨pa, pc, hv⟩ := rowB_form HQ.out.own.row
    subst hv
    by_cases hlt : i < ks.length
    · obtain ⟨g, e, hgl, cg⟩ := row_nth HR.out.2.1 hlt
      cases e
      have hwr : Below w.heap.size w wr := HR.out.2.2.trans (HQ.out.own.bel.mono HR.out.2.2.size)
      have cg' := kc HQ.out.own.bel hgl cg
      have hki : ks[i] ∈ ks := List.getElem_mem hlt
      obtain ⟨⟨t, sl⟩, hσ⟩ := Option.ne_none_iff_exists'.1 ((HR.out.1.2 _).1 hki)
      obtain ⟨k, hk⟩ : ∃ k, ks[i] = k := ⟨_, rfl⟩
      rw [hk] at cg' hσ
      obtain ⟨hA, hF⟩ := hs k t sl hσ
      have hA' := ArgsAt.keep hwr (Nat.le_refl _) hA
      have hlk := (((HM.out.1.same (hwr.block bm HM.out.1.lt)).look keyed3 Tryz.underlying121 (zeroT _) (key3 hF)).1 (tval t sl) (by simp [pm, hσ])).2
      have hcop := copied_any t sl wr hA' (hz k t sl hσ)
      have hτ : σ.ta k = some t := by simp [Sg.ta, hσ]
      have hpl : ps.length ≤ i := HQ.out.len
      obtain ⟨la, lc, rfl, _, _⟩ := hA.slice
      have hii : (i : Int) < (ks.length : Int) := by omega
      have hi0' : (0 : Int) ≤ (i : Int) := Int.natCast_nonneg i
      clear hA hA' hF hσ cg hki hwr
      cases hut : uvar t
      · skip
        have HK : Hid (ks[i] = k ∧ bindOf σ.ta k = some (k, t)) := ⟨hk, bind_some hτ (.inl hut)⟩
        clear hk hτ
        go_wp2_with (first
          | (at_builtin; have HRW : Hid ((Z.alloc (.cells #[.int .i64 k, .int .i64 t.v, .string t.fn, .slice sa t.args.length sc] 116)).ownsRow W1.heap.size 116 4 (.slice pa ps.length pc) ps.length (flatB ps)) := (HQ.out.own.keep (HY.out.2.1.trans ((HZ.out.trans ((below_box Z _).mono HZ.out.size)).mono HY.out.2.1.size))).row; have HS : Hid (W1.heap.size ≤ (Z.alloc (.cells #[.int .i64 k, .int .i64 t.v, .string t.fn, .slice sa t.args.length sc] 116)).heap.size) := by { have h1 := HQ.out.own.bel.size; have h2 := HY.out.2.1.size; have h3 := HZ.out.size; show W1.heap.size ≤ _; simp; omega }; refine wpList_append_own_at _ rfl _ _ 53 rfl W1.heap.size 116 i0 (.agg #[.int .i64 0, .int .i64 0, .string ⟨#[]⟩, .slice none 0 0]) 4 56 Tryz.underlying53 hi0 hz0 hz1 hz2 rfl (by decide) _ _ _ rfl HRW.out ⟨Z.heap.size, 0, none⟩ 1 1 [.int .i64 k, .int .i64 t.v, .string t.fn, .slice sa t.args.length sc] rfl rfl (lit4 Z _ _ _ _ 116) (by simp [Value.oneCell']) (by unfold maxLen; omega) (by omega) HS.out ?_; intro v5 w5 h2 h3 _ h5; obtain ⟨pa5, pc5, rfl⟩ := rowB_form h2; have HE : Hid (QI W1 σ.ta ks (i + 1) (ps ++ [((k, t), .slice sa t.args.length sc)]) (.slice pa5 (ps.length + 1) pc5) w5) := HQ.out.push hlt HK.out.1 HK.out.2 HY.out.1 HY.out.2.1 HZ.out _ h2 h3 h5; clear h2 h3 h5 HRW HS)
          | (go_at_call 86; refine hu.mono ?_; rintro e Z ⟨rfl, hbZ⟩; have z0 := kc hbZ (by simp) y0; have z1 := kc hbZ (by simp) y1; have z2 := kc hbZ (by simp) y2; have HZ : Hid (Below Y.heap.size Y Z) := (below_box Y _).trans (hbZ.mono (by simp)); clear hbZ hu)
          | (go_at_call 62; refine hcop.mono ?_; rintro e Y ⟨s', rfl, hfr, hbY⟩; obtain ⟨sa, sc, rfl⟩ := hfr.slice; have HY : Hid (ArgsFr wr.heap.size Y (.slice sa t.args.length sc) t.args ∧ Below wr.heap.size wr Y ∧ True) := ⟨hfr, hbY, trivial⟩; obtain ⟨⟨y0, y1, y2⟩, _⟩ := box_facts (MapKept.heap_alloc Y (.cells #[.int .i64 t.v, .string t.fn, .slice sa t.args.length sc] 32)).1; have hu := (uvar_any t (.slice sa t.args.length sc) (Y.alloc (.cells #[.int .i64 t.v, .string t.fn, .slice sa t.args.length sc] 32)) ⟨_, _, _, rfl⟩).mono (R' := fun e w' => e = .returned (.bool (uvar t)) ∧ Below (Y.alloc (.cells #[.int .i64 t.v, .string t.fn, .slice sa t.args.length sc] 32)).heap.size (Y.alloc (.cells #[.int .i64 t.v, .string t.fn, .slice sa t.args.length sc] 32)) w') (fun e w' h => ⟨h.1, by rw [h.2]; exact below_box _ _⟩); rw [hut] at hu; clear hfr hbY))
        go_roundw
        case rel => exact ⟨i + 1, _, by go_num, by omega, HE.out⟩
        case measure => simp [intOf]; omega
      · by_cases hvk : t.v = k
        · skip
          have HK : Hid (bindOf σ.ta ks[i] = none) := by show bindOf σ.ta ks[i] = none; rw [hk]; exact bind_none hτ hut hvk
          have hvk' : (t.v != k) = false := by rw [bne_eq_false_iff_eq]; exact hvk
          clear hvk
          clear hk hτ
          go_wp2_with (first
            | (go_at_call 86; refine hu.mono ?_; rintro e Z ⟨rfl, hbZ⟩; have z0 := kc hbZ (by simp) y0; have z1 := kc hbZ (by simp) y1; have z2 := kc hbZ (by simp) y2; have HZ : Hid (Below Y.heap.size Y Z) := (below_box Y _).trans (hbZ.mono (by simp)); clear hbZ hu)
            | (go_at_call 62; refine hcop.mono ?_; rintro e Y ⟨s', rfl, hfr, hbY⟩; obtain ⟨sa, sc, rfl⟩ := hfr.slice; have HY : Hid (ArgsFr wr.heap.size Y (.slice sa t.args.length sc) t.args ∧ Below wr.heap.size wr Y ∧ True) := ⟨hfr, hbY, trivial⟩; obtain ⟨⟨y0, y1, y2⟩, _⟩ := box_facts (MapKept.heap_alloc Y (.cells #[.int .i64 t.v, .string t.fn, .slice sa t.args.length sc] 32)).1; have hu := (uvar_any t (.slice sa t.args.length sc) (Y.alloc (.cells #[.int .i64 t.v, .string t.fn, .slice sa t.args.length sc] 32)) ⟨_, _, _, rfl⟩).mono (R' := fun e w' => e = .returned (.bool (uvar t)) ∧ Below (Y.alloc (.cells #[.int .i64 t.v, .string t.fn, .slice sa t.args.length sc] 32)).heap.size (Y.alloc (.cells #[.int .i64 t.v, .string t.fn, .slice sa t.args.length sc] 32)) w') (fun e w' h => ⟨h.1, by rw [h.2]; exact below_box _ _⟩); rw [hut] at hu; clear hfr hbY))
          have HE : Hid (QI W1 σ.ta ks (i + 1) ps (.slice pa ps.length pc) Z) := HQ.out.skip hlt HK.out (HY.out.2.1.trans (HZ.out.mono HY.out.2.1.size))
          go_roundw
          case rel => exact ⟨i + 1, _, by go_num, by omega, HE.out⟩
          case measure => simp [intOf]; omega
        · skip
          have HK : Hid (ks[i] = k ∧ bindOf σ.ta k = some (k, t)) := ⟨hk, bind_some hτ (.inr hvk)⟩
          have hvk' : (t.v != k) = true := by rw [bne_iff_ne]; exact hvk
          clear hvk
          clear hk hτ
          go_wp2_with (first
            | (at_builtin; have HRW : Hid ((Z.alloc (.cells #[.int .i64 k, .int .i64 t.v, .string t.fn, .slice sa t.args.length sc] 116)).ownsRow W1.heap.size 116 4 (.slice pa ps.length pc) ps.length (flatB ps)) := (HQ.out.own.keep (HY.out.2.1.trans ((HZ.out.trans ((below_box Z _).mono HZ.out.size)).mono HY.out.2.1.size))).row; have HS : Hid (W1.heap.size ≤ (Z.alloc (.cells #[.int .i64 k, .int .i64 t.v, .string t.fn, .slice sa t.args.length sc] 116)).heap.size) := by { have h1 := HQ.out.own.bel.size; have h2 := HY.out.2.1.size; have h3 := HZ.out.size; show W1.heap.size ≤ _; simp; omega }; refine wpList_append_own_at _ rfl _ _ 53 rfl W1.heap.size 116 i0 (.agg #[.int .i64 0, .int .i64 0, .string ⟨#[]⟩, .slice none 0 0]) 4 56 Tryz.underlying53 hi0 hz0 hz1 hz2 rfl (by decide) _ _ _ rfl HRW.out ⟨Z.heap.size, 0, none⟩ 1 1 [.int .i64 k, .int .i64 t.v, .string t.fn, .slice sa t.args.length sc] rfl rfl (lit4 Z _ _ _ _ 116) (by simp [Value.oneCell']) (by unfold maxLen; omega) (by omega) HS.out ?_; intro v5 w5 h2 h3 _ h5; obtain ⟨pa5, pc5, rfl⟩ := rowB_form h2; have HE : Hid (QI W1 σ.ta ks (i + 1) (ps ++ [((k, t), .slice sa t.args.length sc)]) (.slice pa5 (ps.length + 1) pc5) w5) := HQ.out.push hlt HK.out.1 HK.out.2 HY.out.1 HY.out.2.1 HZ.out _ h2 h3 h5; clear h2 h3 h5 HRW HS)
            | (go_at_call 86; refine hu.mono ?_; rintro e Z ⟨rfl, hbZ⟩; have z0 := kc hbZ (by simp) y0; have z1 := kc hbZ (by simp) y1; have z2 := kc hbZ (by simp) y2; have HZ : Hid (Below Y.heap.size Y Z) := (below_box Y _).trans (hbZ.mono (by simp)); clear hbZ hu)
            | (go_at_call 62; refine hcop.mono ?_; rintro e Y ⟨s', rfl, hfr, hbY⟩; obtain ⟨sa, sc, rfl⟩ := hfr.slice; have HY : Hid (ArgsFr wr.heap.size Y (.slice sa t.args.length sc) t.args ∧ Below wr.heap.size wr Y ∧ True) := ⟨hfr, hbY, trivial⟩; obtain ⟨⟨y0, y1, y2⟩, _⟩ := box_facts (MapKept.heap_alloc Y (.cells #[.int .i64 t.v, .string t.fn, .slice sa t.args.length sc] 32)).1; have hu := (uvar_any t (.slice sa t.args.length sc) (Y.alloc (.cells #[.int .i64 t.v, .string t.fn, .slice sa t.args.length sc] 32)) ⟨_, _, _, rfl⟩).mono (R' := fun e w' => e = .returned (.bool (uvar t)) ∧ Below (Y.alloc (.cells #[.int .i64 t.v, .string t.fn, .slice sa t.args.length sc] 32)).heap.size (Y.alloc (.cells #[.int .i64 t.v, .string t.fn, .slice sa t.args.length sc] 32)) w') (fun e w' h => ⟨h.1, by rw [h.2]; exact below_box _ _⟩); rw [hut] at hu; clear hfr hbY))
          go_roundw
          case rel => exact ⟨i + 1, _, by go_num, by omega, HE.out⟩
          case measure => simp [intOf]; omega
    · have HB : Hid (BIn w.heap.size wr.heap.size wr (.slice pa ps.length pc) (listB σ.ta ks) ∧ Below w.heap.size w wr) := ⟨(HQ.out.last (by omega)).wider HR.out.2.2.size, HR.out.2.2.trans (HQ.out.own.bel.mono HR.out.2.2.size)⟩
      go_wp2
      go_ret
      exact ⟨_, ks, rfl, HR.out.1, HB.out.1, HB.out.2⟩

end Go.Proofs.YtijihmncbaoklaaGreat
