/-
  The law: its walk.
-/
import Derived.Test.YtijihmncbaoklaaGreatMD
import Derived.Deep.DeepCutAuto
namespace Go.Proofs.YtijihmncbaoklaaGreat
open Go.RowKit Go.Maps Go.Shelf

attribute [local go_sem] Oper.semAt_some

theorem set3_box {X : World} {n : Nat} {u v s u' v' s' : Value} (h : X.heap[n]? = some (.cells #[u, v, s] 32 (0, 0))) : (((X.setCell ⟨n, 0, none⟩ u').setCell ⟨n, 1, none⟩ v').setCell ⟨n, 2, none⟩ s').heap[n]? = some (.cells #[u', v', s'] 32 (0, 0)) := by
  have e1 := heap_setCell_same X n 0 _ 32 u' h
  have e2 := heap_setCell_same _ n 1 _ 32 v' e1
  have e3 := heap_setCell_same _ n 2 _ 32 s' e2
  simpa using e3

theorem cell_lt {w : World} {b o : Nat} {v : Value} (h : w.cell? ⟨b, o, none⟩ = some v) : b < w.heap.size := by
  unfold World.cell? at h
  by_cases hb : b < w.heap.size
  · exact hb
  · simp [Array.getElem?_eq_none (by omega : w.heap.size ≤ b)] at h

/-- The first loop. -/
def Lp (w : World) (_l : List T) (k : Nat) (q : List (T × Value)) (v : Value) (W : World) : Prop := ∃ es K, One w w.heap.size w.heap.size es K q v W ∧ q.length ≤ k

theorem Lp.keep {w : World} {l : List T} {k : Nat} {q : List (T × Value)} {v : Value} {W W' : World} (h : Lp w l k q v W) (hb : Below W.heap.size W W') : Lp w l k q v W' := by
  obtain ⟨es, K, h1, h2⟩ := h
  exact ⟨es, K, h1.keep hb, h2⟩
theorem Lp.bel {w : World} {l : List T} {k : Nat} {q : List (T × Value)} {v : Value} {W : World} (h : Lp w l k q v W) : Below w.heap.size w W := by
  obtain ⟨es, K, h1, h2⟩ := h
  exact h1.bel
theorem Lp.form {w : World} {l : List T} {k : Nat} {q : List (T × Value)} {v : Value} {W : World} (h : Lp w l k q v W) : ∃ a c, v = .slice a q.length c := by
  obtain ⟨es, K, h1, h2⟩ := h
  exact h1.form

/-- Behind Insert of a term that is right. -/
def Lm (w : World) (k : Nat) (q : List (T × Value)) (t : T) (v : Value) (W : World) : Prop := ∃ es es' K', Mid w w.heap.size w.heap.size es es' K' q t v W ∧ q.length ≤ k

theorem Lm.keep {w : World} {k : Nat} {q : List (T × Value)} {t : T} {v : Value} {W W' : World} (h : Lm w k q t v W) (hb : Below W.heap.size W W') : Lm w k q t v W' := by
  obtain ⟨es, es', K, h1, h2⟩ := h
  exact ⟨es, es', K, h1.keep hb, h2⟩

theorem Lp.insert {w : World} {l : List T} {k : Nat} {q : List (T × Value)} {v : Value} {W : World} (h : Lp w l k q v W) (hk : k ≤ 30) (t : T) (sl : Value) (ha : ArgsAt W sl t.args) (hsz : t.size ≤ 1048576) :
    Calls Tryz.prog 9 #[.pointer (some ⟨w.heap.size, 0, none⟩), .int .i64 (q.length : Nat), tval t sl] W fun e W' => e = .returned (.int .i64 (if t.rightW = 0 then 0 else 1)) ∧ Below w.heap.size w W' ∧ (t.rightW = 0 → Lm w k q t v W') ∧ (t.rightW ≠ 0 → Lp w l k q v W') := by
  obtain ⟨es, K, h1, h2⟩ := h
  have hl := h1.len
  refine (tinsE h1.st (by omega) t sl (q.length : Nat) ha hsz (by unfold Fit64; omega) (fun e he e' => ?_)).mono ?_
  · obtain ⟨j, hj, h3, _⟩ := h1.of he
    omega
  · rintro e W' ⟨rfl, es', K', ho, hk'⟩
    by_cases hr : t.rightW = 0
    · rw [if_pos hr] at hk'
      have := h1.ins ho hk'
      exact ⟨rfl, this.bel, fun _ => ⟨es, es', K', this, h2⟩, fun h => absurd hr h⟩
    · rw [if_neg hr, List.append_nil] at hk'
      have := h1.ins_no ho hk'
      exact ⟨rfl, this.bel, fun h => absurd h hr, fun _ => ⟨es', K', this, h2⟩⟩

theorem Lm.push {w : World} {l : List T} {k : Nat} {q : List (T × Value)} {t : T} {s v v' : Value} {W W' : World} (h : Lm w k q t v W) (hr : W'.ownsRow w.heap.size 32 3 v' (q.length + 1) (flT q ++ [.int .i64 t.v, .string t.fn, s])) (hg : W.grownBy W' v.ownBlock) (hv : v'.ownBlock = v.ownBlock ∨ v'.ownBlock = some W.heap.size) (ha : ArgsAt w s t.args) (ht : OkT t) : Lp w l (k + 1) (q ++ [(t, s)]) v' W' := by
  obtain ⟨es, es', K', h1, h2⟩ := h
  exact ⟨es', K', h1.push hr hg hv ha ht, by simp; omega⟩

set_option maxRecDepth 100000 in
set_option maxHeartbeats 8000000 in
theorem lawmakes_any (l : List T) (s : List Bd) (vl vs : Value) (w : World) (hl : ArgsAt w vl l) (hs : BindsAt w vs s) (sl : ∀ x ∈ l, x.size ≤ 1048576) (ss : ∀ y ∈ s, y.2.size ≤ 1048576) (ll : l.length ≤ 1048576) :
    Calls Tryz.prog 4 #[vl, vs] w fun e w' => e = .returned (.bool true) ∧ Below w.heap.size w w' := by
  obtain ⟨la, lc, rfl, _, _⟩ := hl.slice
  obtain ⟨sa, sc, rfl⟩ := hs.slice
  have hn := new_any w
  have H0 : Hid (ArgsAt w (.slice la l.length lc) l ∧ BindsAt w (.slice sa s.length sc) s ∧ (∀ x ∈ l, x.size ≤ 1048576) ∧ (∀ y ∈ s, y.2.size ≤ 1048576)) := ⟨hl, hs, sl, ss⟩
  obtain ⟨i0, hi0, hz0, hz1, hz2⟩ := info_parts Tryz.info32
  clear hl hs sl ss
  go_enter Tryz.func4, Tryz.ntmps4
  go_wp2_with fail
  refine hn.mono ?_
  rintro e W1 ⟨rfl, hE, hb1, hs1⟩
  clear hn
  have HT : Hid (Lp w l 0 [] (.slice none 0 0) W1) := ⟨[], [], One.start hE (Nat.le_refl _) hb1 (Nat.le_refl _), Nat.le_refl _⟩
  clear hE hb1 hs1
  have hal := alive_any W1
  go_wp2_with fail
  refine hal.mono ?_
  rintro e W2 ⟨rfl, hb2⟩
  clear hal
  have HT2 : Hid (Lp w l 0 [] (.slice none 0 0) W2) := HT.out.keep hb2
  clear HT hb2
  by_cases g1 : 30 < l.length
  · have q1 : decide ((30 : Int) < (l.length : Int)) = true := by simp; omega
    have hal := alive_any W2
    go_wp2_with fail
    refine hal.mono ?_
    rintro e W3 ⟨rfl, hb3⟩
    have HF : Hid (Below w.heap.size w W3) := (HT2.out.keep hb3).bel
    clear hal hb3
    go_wp2
    go_ret
    exact ⟨rfl, HF.out⟩
  · by_cases g2 : 20 < s.length
    · have q1 : decide ((30 : Int) < (l.length : Int)) = false := by simp; omega
      have q2 : decide ((20 : Int) < (s.length : Int)) = true := by simp; omega
      have hal := alive_any W2
      go_wp2_with fail
      refine hal.mono ?_
      rintro e W3 ⟨rfl, hb3⟩
      have HF : Hid (Below w.heap.size w W3) := (HT2.out.keep hb3).bel
      clear hal hb3
      go_wp2
      go_ret
      exact ⟨rfl, HF.out⟩
    · have q1 : decide ((30 : Int) < (l.length : Int)) = false := by simp; omega
      have q2 : decide ((20 : Int) < (s.length : Int)) = false := by simp; omega
      go_wp2
      go_loopw [6, 7] (fun v i wr => ∃ (k : Nat) (q : List (T × Value)) (a : Option Addr) (c : Nat), k ≤ l.length ∧ i = .int .i64 (k : Nat) ∧ v = .slice a q.length c ∧ Hid (Lp w l k q v wr)) (fun _ i _ => l.length - (intOf i).toNat)
      case atStart => exact ⟨0, [], none, 0, Nat.zero_le _, rfl, rfl, HT2.out⟩
      case round =>
        clear HT2
        obtain ⟨k, q, qa, qc, hk, rfl, rfl, hi⟩ := hrel
        by_cases hlt : k < l.length
        · have hlw : ArgsAt w (.slice la l.length lc) l := H0.out.1
          obtain ⟨bb, oo, s1, rfl, hbb, c0, c1, c2, hsA⟩ := hlw.nth hlt
          obtain ⟨sb, sd, rfl, _, _⟩ := hsA.slice
          obtain ⟨t, ht⟩ : ∃ t, l[k] = t := ⟨_, rfl⟩
          have hts : t.size ≤ 1048576 := ht ▸ H0.out.2.2.1 _ (List.getElem_mem hlt)
          rw [ht] at c0 c1 c2 hsA
          have HF : Hid (∀ W, Below w.heap.size w W → W.cell? ⟨bb, oo + k * 3, none⟩ = some (.int .i64 t.v) ∧ W.cell? ⟨bb, oo + k * 3 + 1, none⟩ = some (.string t.fn) ∧ W.cell? ⟨bb, oo + k * 3 + 2, none⟩ = some (.slice sb t.args.length sd) ∧ ArgsAt W (.slice sb t.args.length sd) t.args) := fun W hb => ⟨kc hb hbb c0, kc hb hbb c1, kc hb hbb c2, ArgsAt.keep hb (Nat.le_refl _) hsA⟩
          have HA : Hid (ArgsAt w (.slice sb t.args.length sd) t.args) := hsA
          clear hlw c0 c1 c2 hsA ht hbb
          obtain ⟨c0, c1, c2, hA⟩ := HF.out wr hi.out.bel
          have hsz := rsize_any t _ wr hA
          have hw : wrap64 t.size = t.size := wrap_small (by have := size_pos t; omega) (by omega)
          rw [hw] at hsz
          clear hw hA
          by_cases h200 : t.size ≤ 200
          · have q3 : decide (t.size ≤ 200) = true := decide_eq_true h200
            go_wp2_with fail
            refine hsz.mono ?_
            rintro e W3 ⟨rfl, hb3⟩
            have HI3 : Hid (Lp w l k q (.slice qa q.length qc) W3) := hi.out.keep hb3
            clear hsz c0 c1 c2 hb3 hi
            obtain ⟨c0, c1, c2, hA⟩ := HF.out W3 HI3.out.bel
            have hins := HI3.out.insert (by omega) t _ hA hts
            clear hA
            by_cases hr : t.rightW = 0
            · rw [if_pos hr] at hins
              go_wp2_with fail
              refine hins.mono ?_
              rintro e W4 ⟨rfl, hb4, hm, _⟩
              have HM : Hid (Lm w k q t (.slice qa q.length qc) W4) := hm hr
              have HO : Hid (OkT t) := ok_of hr hts
              obtain ⟨d0, d1, d2, _⟩ := HF.out W4 hb4
              have HR : Hid ((W4.alloc (.cells #[.int .i64 t.v, .string t.fn, .slice sb t.args.length sd] 32)).ownsRow w.heap.size 32 3 (.slice qa q.length qc) q.length (flT q) ∧ w.heap.size ≤ (W4.alloc (.cells #[.int .i64 t.v, .string t.fn, .slice sb t.args.length sd] 32)).heap.size ∧ q.length ≤ 30) := by
                obtain ⟨es, es', K', h1, h2⟩ := (HM.out).keep (below_box W4 (.cells #[.int .i64 t.v, .string t.fn, .slice sb t.args.length sd] 32))
                exact ⟨h1.row, h1.n0l, by omega⟩
              have HP : Hid (∀ (v' : Value) (w8 : World), w8.ownsRow w.heap.size 32 3 v' (q.length + 1) (flT q ++ [.int .i64 t.v, .string t.fn, .slice sb t.args.length sd]) → (W4.alloc (.cells #[.int .i64 t.v, .string t.fn, .slice sb t.args.length sd] 32)).grownBy w8 (Value.slice qa q.length qc).ownBlock → (v'.ownBlock = (Value.slice qa q.length qc).ownBlock ∨ v'.ownBlock = some (W4.alloc (.cells #[.int .i64 t.v, .string t.fn, .slice sb t.args.length sd] 32)).heap.size) → Lp w l (k + 1) (q ++ [(t, .slice sb t.args.length sd)]) v' w8) := fun v' w8 h1 h2 h3 => (HM.out.keep (below_box W4 _)).push h1 h2 h3 HA.out HO.out
              clear hins hb4 hm c0 c1 c2 HM
              go_wp2_with (at_builtin; refine wpList_append_own_at _ rfl _ _ 23 rfl w.heap.size 32 i0 (.agg #[.int .i64 0, .string ⟨#[]⟩, .slice none 0 0]) 3 48 Tryz.underlying23 hi0 hz0 hz1 hz2 rfl (by decide) _ _ _ rfl HR.out.1 ⟨W4.heap.size, 0, none⟩ 1 1 [.int .i64 t.v, .string t.fn, .slice sb t.args.length sd] rfl rfl (lit3 W4 _ _ _ 32) (by simp [Value.oneCell']) (by have := HR.out.2.2; unfold maxLen; omega) (by have := HR.out.2.2; omega) HR.out.2.1 ?_; intro v7 w7 k1 k2 _ k3; obtain ⟨a7, c7, rfl⟩ := rowB_form k1; have HN := hid (HP.out _ _ k1 k2 k3))
              go_roundw
              case rel => exact ⟨k + 1, q ++ [(t, .slice sb t.args.length sd)], a7, c7, by omega, by go_num, by simp, HN⟩
              case measure => simp [intOf]; omega
            · rw [if_neg hr] at hins
              go_wp2_with fail
              refine hins.mono ?_
              rintro e W4 ⟨rfl, hb4, _, hm⟩
              have HN : Hid (Lp w l (k + 1) q (.slice qa q.length qc) W4) := by obtain ⟨es, K, h1, h2⟩ := hm hr; exact ⟨es, K, h1, by omega⟩
              clear hins hb4 hm c0 c1 c2
              go_wp2
              go_roundw
              case rel => exact ⟨k + 1, q, qa, qc, by omega, by go_num, rfl, HN⟩
              case measure => simp [intOf]; omega
          · have q3 : decide (t.size ≤ 200) = false := decide_eq_false h200
            go_wp2_with fail
            refine hsz.mono ?_
            rintro e W3 ⟨rfl, hb3⟩
            have HN : Hid (Lp w l (k + 1) q (.slice qa q.length qc) W3) := by obtain ⟨es, K, h1, h2⟩ := hi.out.keep hb3; exact ⟨es, K, h1, by omega⟩
            clear hsz c0 c1 c2 hb3 hi
            go_wp2
            go_roundw
            case rel => exact ⟨k + 1, q, qa, qc, by omega, by go_num, rfl, HN⟩
            case measure => simp [intOf]; omega
        · obtain ⟨wa, hwa⟩ : ∃ X, X = wr := ⟨_, rfl⟩
          subst hwa
          have HQ : Hid (∃ es K, One w w.heap.size w.heap.size es K q (.slice qa q.length qc) wa ∧ q.length ≤ 30) := by
            obtain ⟨es, K, h1, h2⟩ := hi.out
            exact ⟨es, K, h1, by omega⟩
          clear hi hk
          obtain ⟨es, K, HO, hq⟩ := HQ.out
          have HO := hid HO
          clear HQ
          go_wp2
          go_loopw [8] (fun i wr => ∃ k : Nat, k ≤ q.length ∧ i = .int .i64 (k : Nat) ∧ Hid (One w w.heap.size w.heap.size es K q (.slice qa q.length qc) wr)) (fun i _ => q.length - (intOf i).toNat)
          case atStart => exact ⟨0, Nat.zero_le _, rfl, HO.out⟩
          case round =>
            clear HO
            obtain ⟨k, hk, rfl, HO⟩ := hrel
            by_cases hlt : k < q.length
            · obtain ⟨g, rfl, _, hqc, hqm, c0, c1, c2, hA⟩ := HO.out.nth hlt
              obtain ⟨t, ht⟩ : ∃ t, q[k].1 = t := ⟨_, rfl⟩
              obtain ⟨st, hst⟩ : ∃ st, q[k].2 = st := ⟨_, rfl⟩
              have hok : OkT t := ht ▸ HO.out.okt _ (List.getElem_mem hlt)
              rw [ht] at c0 c1 hA
              rw [hst] at c2 hA
              obtain ⟨sb, sd, rfl, _, _⟩ := hA.slice
              have HK : Hid (OkT t ∧ OkT (askT s t) ∧ ∃ θ, Fit θ t (askT s t)) := ⟨hok, ask_ok H0.out.2.2.2 hok⟩
              obtain ⟨W3, hW3⟩ : ∃ X, wr.alloc (tbox t (.slice sb t.args.length sd)) = X := ⟨_, rfl⟩
              have hb3 : Below wr.heap.size wr W3 := by rw [← hW3]; exact below_box _ _
              obtain ⟨t0, t1, t2⟩ := tbox_cells wr t (.slice sb t.args.length sd)
              have h9 := (MapKept.heap_alloc wr (tbox t (.slice sb t.args.length sd))).1
              rw [hW3] at t0 t1 t2 h9
              have hap := apply_tot s H0.out.2.2.2 t (by have := hok.size; omega) (.slice sa s.length sc) (.slice sb t.args.length sd) W3 ((H0.out.2.1.keep HO.out.bel).keep hb3) (ArgsAt.keep hb3 (Nat.le_refl _) hA)
              obtain ⟨b9, hb9⟩ : ∃ b, wr.heap.size = b := ⟨_, rfl⟩
              rw [hb9] at t0 t1 t2
              have H3 : Hid (W3.heap[b9]? = some (.cells #[.int .i64 t.v, .string t.fn, .slice sb t.args.length sd] 32 (0, 0)) ∧ Below wr.heap.size wr W3 ∧ ArgsAt W3 (.slice sb t.args.length sd) t.args ∧ b9 = wr.heap.size) := ⟨hb9 ▸ h9, hb3, ArgsAt.keep hb3 (Nat.le_refl _) hA, hb9.symm⟩
              have HT : Hid (q[k].1 = t) := ht
              clear hok hb3 h9 hA ht hst
              go_wp2_with fail
              refine hap.mono ?_
              rintro e W4 ⟨sl4, rfl, hA4, hb4⟩
              obtain ⟨ya, yc, rfl⟩ := hA4.slice
              have hb5 := below_box W4 (.cells #[.int .i64 (aT s t).v, .string (aT s t).fn, .slice ya (aT s t).args.length yc] 32)
              have h10 := (MapKept.heap_alloc W4 (.cells #[.int .i64 (aT s t).v, .string (aT s t).fn, .slice ya (aT s t).args.length yc] 32)).1
              have H5 : Hid (Below wr.heap.size wr W4 ∧ ArgsFr W3.heap.size W4 (.slice ya (aT s t).args.length yc) (aT s t).args ∧ b9 < W3.heap.size ∧ W4.heap[b9]? = some (.cells #[.int .i64 t.v, .string t.fn, .slice sb t.args.length sd] 32 (0, 0)) ∧ ArgsAt W4 (.slice sb t.args.length sd) t.args) := by
                obtain ⟨x1, x2, x3, x4⟩ := H3.out
                have := hb4.size
                exact ⟨x2.trans (hb4.mono x2.size), hA4, (Array.getElem?_eq_some_iff.1 x1).1, (hb4.block b9 (by have := (Array.getElem?_eq_some_iff.1 x1).1; omega)).trans x1, ArgsAt.keep hb4 (Nat.le_refl _) x3⟩
              clear hap hA4 hb4 hb5 h10
              go_upto_if 92 with fail
              obtain ⟨W5, hW5⟩ : ∃ X, W4.alloc (.cells #[.int .i64 (aT s t).v, .string (aT s t).fn, .slice ya (aT s t).args.length yc] 32) = X := ⟨_, rfl⟩
              obtain ⟨b10, hb10⟩ : ∃ b, W4.heap.size = b := ⟨_, rfl⟩
              have H6 : Hid (W5.heap[b10]? = some (.cells #[.int .i64 (aT s t).v, .string (aT s t).fn, .slice ya (aT s t).args.length yc] 32 (0, 0)) ∧ W5.heap[b9]? = some (.cells #[.int .i64 t.v, .string t.fn, .slice sb t.args.length sd] 32 (0, 0)) ∧ Below wr.heap.size wr W5 ∧ ArgsFr W3.heap.size W5 (.slice ya (aT s t).args.length yc) (aT s t).args ∧ ArgsAt W5 (.slice sb t.args.length sd) t.args ∧ b9 = wr.heap.size ∧ b9 < W3.heap.size) := by
                obtain ⟨x1, x2, xl, x3, x4⟩ := H5.out
                rw [← hW5, ← hb10]
                have hbb := below_box W4 (.cells #[.int .i64 (aT s t).v, .string (aT s t).fn, .slice ya (aT s t).args.length yc] 32)
                exact ⟨(MapKept.heap_alloc W4 _).1, (hbb.block b9 (Array.getElem?_eq_some_iff.1 x3).1).trans x3, x1.trans (hbb.mono x1.size), x2.keep hbb.size (fun k _ hk => hbb.block k hk), ArgsAt.keep hbb (Nat.le_refl _) x4, H3.out.2.2.2, xl⟩
              rw [hW5, hb10]
              clear hW5 hb10 H5 H3
              go_cut [] (fun wx => ∃ sx, Hid (wx.heap[b9]? = some (.cells #[.int .i64 (askT s t).v, .string (askT s t).fn, sx] 32 (0, 0)) ∧ ArgsAt wx sx (askT s t).args ∧ Below wr.heap.size wr wx))
              case first =>
                by_cases hz : aE s t = 0
                · have hzb : (aE s t == 0) = true := by simp [hz]
                  obtain ⟨⟨d0, d1, d2⟩, e0, e1, e2⟩ := box_facts H6.out.1
                  obtain ⟨⟨f0, f1, f2⟩, g0, g1, g2⟩ := box_facts H6.out.2.1
                  go_wp2_with fail
                  go_meet
                  clear d0 d1 d2 e0 e1 e2 f0 f1 f2 g0 g1 g2
                  obtain ⟨x1, x2, x3, x4, x5, x6, x7⟩ := H6.out
                  have he : askT s t = aT s t := if_pos hz
                  have hbb := set3_below (Below.refl b9 W5) b9 0 (.int .i64 (aT s t).v) (.string (aT s t).fn) (.slice ya (aT s t).args.length yc) (Nat.le_refl _)
                  rw [he]
                  exact ⟨_, set3_box x2, (x4.keep (W' := set3 W5 b9 0 (.int .i64 (aT s t).v) (.string (aT s t).fn) (.slice ya (aT s t).args.length yc)) (by simp) (fun k hk _ => set3_other _ _ _ _ _ _ k (by omega))).args, x3.trans (hbb.mono (by omega))⟩
                · have hzb : (aE s t == 0) = false := by simp [hz]
                  go_wp2_with fail
                  go_meet
                  obtain ⟨x1, x2, x3, x4, x5, x6, x7⟩ := H6.out
                  have he : askT s t = t := if_neg hz
                  rw [he]
                  exact ⟨_, x2, x5, x3⟩
              case rest =>
                obtain ⟨sx, HX⟩ := hcut
                obtain ⟨xa, xc, rfl, _, _⟩ := HX.out.2.1.slice
                obtain ⟨⟨d0, d1, d2⟩, _⟩ := box_facts HX.out.1
                have hO7 := HO.out.keep HX.out.2.2
                have hgen := tgen hO7.st (by have := hO7.len; omega) (askT s t) (.slice xa (askT s t).args.length xc) HX.out.2.1 (by have := HK.out.2.1.size; omega)
                have HO7 := hid hO7
                clear hO7
                go_wp2_with fail
                refine hgen.mono ?_
                intro e W7 hG
                obtain ⟨v7, hs, rfl, hH, hb7⟩ := HO7.out.hits hq hlt HK.out.2.1 (by rw [HT.out]; exact HK.out.2.2) hG
                obtain ⟨ha, hc, rfl⟩ := hH.form
                have H8 : Hid (One w w.heap.size w.heap.size es K q (.slice (some ⟨g, 0, none⟩) q.length qc) W7 ∧ Hits q (askT s t) k (.slice ha hs.length hc) hs W7 ∧ W7.heap[b9]? = some (.cells #[.int .i64 (askT s t).v, .string (askT s t).fn, .slice xa (askT s t).args.length xc] 32 (0, 0)) ∧ ArgsAt W7 (.slice xa (askT s t).args.length xc) (askT s t).args) := ⟨HO7.out.keep hb7, hH, (hb7.block b9 (Array.getElem?_eq_some_iff.1 HX.out.1).1).trans HX.out.1, ArgsAt.keep hb7 (Nat.le_refl _) HX.out.2.1⟩
                have hl30 := hH.len
                clear hgen hG hH hb7 HO7 HX H6 HO d0 d1 d2 c0 c1 c2 t0 t1 t2
                go_wp2
                go_loopw [13, 14] (fun b i wr => ∃ k3 : Nat, k3 ≤ hs.length ∧ i = .int .i64 (k3 : Nat) ∧ b = .bool (among hs k3 k) ∧ Hid (One w w.heap.size w.heap.size es K q (.slice (some ⟨g, 0, none⟩) q.length qc) wr ∧ Hits q (askT s t) k (.slice ha hs.length hc) hs wr ∧ wr.heap[b9]? = some (.cells #[.int .i64 (askT s t).v, .string (askT s t).fn, .slice xa (askT s t).args.length xc] 32 (0, 0)) ∧ ArgsAt wr (.slice xa (askT s t).args.length xc) (askT s t).args)) (fun _ i _ => hs.length - (intOf i).toNat)
                case atStart => exact ⟨0, Nat.zero_le _, rfl, by rw [among_zero], H8.out⟩
                case round =>
                  clear H8
                  obtain ⟨k3, hk3, rfl, rfl, H8⟩ := hrel
                  by_cases hlt3 : k3 < hs.length
                  · obtain ⟨g2, j, hj, za, zm, zc, bs, rfl, _, hcc, hcm, z0, z1, hid3, hB, hBs, hE, hT3⟩ := H8.out.2.1.nth hlt3
                    obtain ⟨g3, hg3, _, _, _, p0, p1, p2, hpA⟩ := H8.out.1.nth hj
                    cases hg3
                    go_upto_region 22 with fail
                    obtain ⟨sp, hsp⟩ : ∃ sp, q[j].2 = sp := ⟨_, rfl⟩
                    obtain ⟨p, hp⟩ : ∃ p, q[j].1 = p := ⟨_, rfl⟩
                    rw [hp] at p0 p1 hpA hE hT3
                    rw [hsp] at p2 hpA
                    obtain ⟨pa, pc, rfl, _, _⟩ := hpA.slice
                    have hpo : OkT p := hp ▸ H8.out.1.okt _ (List.getElem_mem hj)
                    have hC : Hid (∀ X, Below wr.heap.size wr X → X.cell? ⟨g2, k3 * 2, none⟩ = some (.int .i64 (j : Nat)) ∧ X.cell? ⟨g2, k3 * 2 + 1, none⟩ = some (.slice za zm zc) ∧ X.cell? ⟨g, j * 3, none⟩ = some (.int .i64 p.v) ∧ X.cell? ⟨g, j * 3 + 1, none⟩ = some (.string p.fn) ∧ X.cell? ⟨g, j * 3 + 2, none⟩ = some (.slice pa p.args.length pc)) := fun X hX =>
                      ⟨kc hX (cell_lt z0) z0, kc hX (cell_lt z1) z1, kc hX (cell_lt p0) p0, kc hX (cell_lt p1) p1, kc hX (cell_lt p2) p2⟩
                    have h22 : Hid (∀ X, Below wr.heap.size wr X → Calls Tryz.prog 22 #[.slice za zm zc, tval p (.slice pa p.args.length pc)] X fun e W' => ∃ sx, e = .returned (.tuple #[tval (askT s t) sx, .int .i64 0]) ∧ ArgsFr X.heap.size W' sx (askT s t).args ∧ Below X.heap.size X W') := fun X hX => by
                      have := apply_tot bs hBs p (by have := hpo.size; omega) (.slice za zm zc) (.slice pa p.args.length pc) X (hB.keep hX) (ArgsAt.keep hX (Nat.le_refl _) hpA)
                      rw [hE, hT3] at this
                      exact this
                    have hjq : (j : Int) < (q.length : Int) := by omega
                    have HAM : Hid (among hs (k3 + 1) k = (among hs k3 k || ((j : Int) == (k : Int)))) := by show among hs (k3 + 1) k = _; rw [among_succ hlt3, hid3]
                    have HC := hC
                    have H22 := h22
                    clear hB hBs hE hT3 hpA z0 z1 p0 p1 p2 hid3 hpo hp hsp hC h22
                    go_cut [15, 16] (fun v15 v16 wx => ∃ b15 sy, v15 = .pointer (some ⟨b15, 0, none⟩) ∧ v16 = .int .i64 0 ∧ Hid (wx.heap[b15]? = some (.cells #[.int .i64 (askT s t).v, .string (askT s t).fn, sy] 32 (0, 0)) ∧ ArgsAt wx sy (askT s t).args ∧ Below wr.heap.size wr wx))
                    case first =>
                      obtain ⟨Wd, hWd⟩ : ∃ X, wr.drew = X := ⟨_, rfl⟩
                      have hS : Below wr.heap.size wr Wd := by rw [← hWd]; exact (Below.refl _ wr).drew
                      refine wp_region_held_drew (S := fun Z => Below wr.heap.size wr Z) (by kernel_rfl) (by rw [hWd]; exact hS) (fun hHeld => ?_)
                      rw [hWd] at hHeld ⊢
                      clear hWd
                      refine take_mk 0 (.slice (some ⟨g2, 0, none⟩) hs.length hc) rfl (by kernel_rfl) (by kernel_rfl) (by kernel_rfl) (fun _ _ _ h => h) (Or.inl ⟨by rfl, fun Z hZ => by go_simp⟩) (by assumption) ?_
                      try simp only [Act.put, List.setIfInBounds_toArray, List.set_cons_zero, List.set_cons_succ]
                      refine take_mk 1 (.int .i64 (k3 : Nat)) rfl (by kernel_rfl) (by kernel_rfl) (by kernel_rfl) (fun _ _ _ h => h) (Or.inl ⟨by rfl, fun Z hZ => by go_simp⟩) (by assumption) ?_
                      try simp only [Act.put, List.setIfInBounds_toArray, List.set_cons_zero, List.set_cons_succ]
                      refine take_mk 2 (.pointer (some ⟨g2, k3 * 2, none⟩)) rfl (by kernel_rfl) (by kernel_rfl) (by kernel_rfl) (fun _ _ _ h => h) (Or.inl ⟨by rfl, fun Z hZ => by go_simp⟩) (by assumption) ?_
                      try simp only [Act.put, List.setIfInBounds_toArray, List.set_cons_zero, List.set_cons_succ]
                      refine take_mk 3 (.pointer (some ⟨g2, k3 * 2 + 1, none⟩)) rfl (by kernel_rfl) (by kernel_rfl) (by kernel_rfl) (fun _ _ _ h => h) (Or.inl ⟨by rfl, fun Z hZ => by go_simp⟩) (by assumption) ?_
                      try simp only [Act.put, List.setIfInBounds_toArray, List.set_cons_zero, List.set_cons_succ]
                      refine take_mk 4 (.slice za zm zc) rfl (by kernel_rfl) (by kernel_rfl) (by kernel_rfl) (fun _ _ _ h => h) (Or.inl ⟨by rfl, fun Z hZ => by obtain ⟨r0, r1, r2, r3, r4⟩ := HC.out Z hZ; go_simp⟩) (by assumption) ?_
                      try simp only [Act.put, List.setIfInBounds_toArray, List.set_cons_zero, List.set_cons_succ]
                      refine take_mk 5 (.slice (some ⟨g, 0, none⟩) q.length qc) rfl (by kernel_rfl) (by kernel_rfl) (by kernel_rfl) (fun _ _ _ h => h) (Or.inl ⟨by rfl, fun Z hZ => by go_simp⟩) (by assumption) ?_
                      try simp only [Act.put, List.setIfInBounds_toArray, List.set_cons_zero, List.set_cons_succ]
                      refine take_mk 6 (.slice (some ⟨g2, 0, none⟩) hs.length hc) rfl (by kernel_rfl) (by kernel_rfl) (by kernel_rfl) (fun _ _ _ h => h) (Or.inl ⟨by rfl, fun Z hZ => by go_simp⟩) (by assumption) ?_
                      try simp only [Act.put, List.setIfInBounds_toArray, List.set_cons_zero, List.set_cons_succ]
                      refine take_mk 7 (.int .i64 (k3 : Nat)) rfl (by kernel_rfl) (by kernel_rfl) (by kernel_rfl) (fun _ _ _ h => h) (Or.inl ⟨by rfl, fun Z hZ => by go_simp⟩) (by assumption) ?_
                      try simp only [Act.put, List.setIfInBounds_toArray, List.set_cons_zero, List.set_cons_succ]
                      refine take_mk 8 (.pointer (some ⟨g2, k3 * 2, none⟩)) rfl (by kernel_rfl) (by kernel_rfl) (by kernel_rfl) (fun _ _ _ h => h) (Or.inl ⟨by rfl, fun Z hZ => by go_simp⟩) (by assumption) ?_
                      try simp only [Act.put, List.setIfInBounds_toArray, List.set_cons_zero, List.set_cons_succ]
                      refine take_mk 9 (.pointer (some ⟨g2, k3 * 2, none⟩)) rfl (by kernel_rfl) (by kernel_rfl) (by kernel_rfl) (fun _ _ _ h => h) (Or.inl ⟨by rfl, fun Z hZ => by go_simp⟩) (by assumption) ?_
                      try simp only [Act.put, List.setIfInBounds_toArray, List.set_cons_zero, List.set_cons_succ]
                      refine take_mk 10 (.int .i64 (j : Nat)) rfl (by kernel_rfl) (by kernel_rfl) (by kernel_rfl) (fun _ _ _ h => h) (Or.inl ⟨by rfl, fun Z hZ => by obtain ⟨r0, r1, r2, r3, r4⟩ := HC.out Z hZ; go_simp⟩) (by assumption) ?_
                      try simp only [Act.put, List.setIfInBounds_toArray, List.set_cons_zero, List.set_cons_succ]
                      refine take_mk 11 (.pointer (some ⟨g, j * 3, none⟩)) rfl (by kernel_rfl) (by kernel_rfl) (by kernel_rfl) (fun _ _ _ h => h) (Or.inl ⟨by rfl, fun Z hZ => by go_simp⟩) (by assumption) ?_
                      try simp only [Act.put, List.setIfInBounds_toArray, List.set_cons_zero, List.set_cons_succ]
                      refine take_mk 12 (tval p (.slice pa p.args.length pc)) rfl (by kernel_rfl) (by kernel_rfl) (by kernel_rfl) (fun _ _ _ h => h) (Or.inl ⟨by rfl, fun Z hZ => by obtain ⟨r0, r1, r2, r3, r4⟩ := HC.out Z hZ; go_simp⟩) (by assumption) ?_
                      try simp only [Act.put, List.setIfInBounds_toArray, List.set_cons_zero, List.set_cons_succ]
                      refine wpAnyH_ready (rs := [13, 17]) (by kernel_rfl) (by simp) (AllReadyH.cons (o := ⟨_, _, _, _, _, _⟩) rfl (fun K hK => ?_) (AllReadyH.cons (o := ⟨_, _, _, _, _, _⟩) rfl (fun K hK => ?_) AllReadyH.nil))
                      · rw [if_pos (by rfl)]
                        go_simp
                        refine (H22.out _ hS).mono ?_
                        rintro e W4 ⟨sy, rfl, hAy, hb⟩
                        obtain ⟨ua, uc, rfl⟩ := hAy.slice
                        have q4 : Below wr.heap.size wr W4 := hS.trans (hb.mono hS.size)
                        refine hK.out _ _ q4 (fun _ => ?_)
                        clear hK K
                        try simp only [Act.put, List.setIfInBounds_toArray, List.set_cons_zero, List.set_cons_succ]
                        refine take_mk 14 (.tuple #[tval (askT s t) (.slice ua (askT s t).args.length uc), .int .i64 0]) rfl (by kernel_rfl) (by kernel_rfl) (by kernel_rfl) (fun _ _ _ h => h) (Or.inl ⟨by rfl, fun Z hZ => by go_simp⟩) (by assumption) ?_
                        try simp only [Act.put, List.setIfInBounds_toArray, List.set_cons_zero, List.set_cons_succ]
                        refine take_mk 15 (tval (askT s t) (.slice ua (askT s t).args.length uc)) rfl (by kernel_rfl) (by kernel_rfl) (by kernel_rfl) (fun _ _ _ h => h) (Or.inl ⟨by rfl, fun Z hZ => by go_simp⟩) (by assumption) ?_
                        try simp only [Act.put, List.setIfInBounds_toArray, List.set_cons_zero, List.set_cons_succ]
                        refine take_mk 16 (.int .i64 0) rfl (by kernel_rfl) (by kernel_rfl) (by kernel_rfl) (fun _ _ _ h => h) (Or.inl ⟨by rfl, fun Z hZ => by go_simp⟩) (by assumption) ?_
                        try simp only [Act.put, List.setIfInBounds_toArray, List.set_cons_zero, List.set_cons_succ]
                        refine wpAnyH_ready (rs := [17]) (by kernel_rfl) (by simp) (AllReadyH.cons (o := ⟨_, _, _, _, _, _⟩) rfl (fun K hK => ?_) AllReadyH.nil)
                        rw [if_pos (by rfl)]
                        go_simp
                        obtain ⟨W6, hW⟩ : ∃ X, W4.alloc (.cells #[.int .i64 0, .string ⟨#[]⟩, .slice none 0 0] 32) = X := ⟨_, rfl⟩
                        have bW : Below W4.heap.size W4 W6 := by rw [← hW]; exact below_box _ _
                        have z6 : W6.heap[W4.heap.size]? = some (.cells #[.int .i64 0, .string ⟨#[]⟩, .slice none 0 0] 32 (0, 0)) := by rw [← hW]; exact (MapKept.heap_alloc _ _).1
                        have q6 : Below wr.heap.size wr W6 := q4.trans (bW.mono q4.size)
                        try rw [hW]
                        refine hK.out _ _ q6 (fun _ => ?_)
                        clear hK K
                        try simp only [Act.put, List.setIfInBounds_toArray, List.set_cons_zero, List.set_cons_succ]
                        refine wpAnyH_ready (rs := [18]) (by kernel_rfl) (by simp) (AllReadyH.cons (o := ⟨_, _, _, _, _, _⟩) rfl (fun K hK => ?_) AllReadyH.nil)
                        rw [if_pos (by rfl)]
                        obtain ⟨⟨k0, k1, k2⟩, y0, y1, y2⟩ := box_facts z6
                        go_simp
                        refine hK.out _ _ (set3_below q6 W4.heap.size 0 _ _ _ q4.size) (fun _ => ?_)
                        clear hK K
                        try simp only [Act.put, List.setIfInBounds_toArray, List.set_cons_zero, List.set_cons_succ]
                        have qq := set3_below q6 W4.heap.size 0 (.int .i64 (askT s t).v) (.string (askT s t).fn) (.slice ua (askT s t).args.length uc) q4.size
                        refine take_mk 19 (.int .i64 0) rfl (by kernel_rfl) (by kernel_rfl) (by kernel_rfl) (fun _ _ _ h => h) (Or.inl ⟨by rfl, fun Z hZ => by go_simp⟩) (by assumption) ?_
                        try simp only [Act.put, List.setIfInBounds_toArray, List.set_cons_zero, List.set_cons_succ]
                        refine wpAnyH_done (by kernel_rfl) ?_ _
                        try simp only [Act.put]
                        go_wp2
                        go_meet
                        exact ⟨W4.heap.size, _, rfl, rfl, set3_box z6, ArgsAt.keep (set3_below bW W4.heap.size 0 _ _ _ (Nat.le_refl _)) (Nat.le_refl _) hAy.args, qq⟩
                      · rw [if_pos (by rfl)]
                        go_simp
                        obtain ⟨W4, hW⟩ : ∃ X, Wd.alloc (.cells #[.int .i64 0, .string ⟨#[]⟩, .slice none 0 0] 32) = X := ⟨_, rfl⟩
                        have bW : Below Wd.heap.size Wd W4 := by rw [← hW]; exact below_box _ _
                        have z6 : W4.heap[Wd.heap.size]? = some (.cells #[.int .i64 0, .string ⟨#[]⟩, .slice none 0 0] 32 (0, 0)) := by rw [← hW]; exact (MapKept.heap_alloc _ _).1
                        have q4 : Below wr.heap.size wr W4 := hS.trans (bW.mono hS.size)
                        try rw [hW]
                        refine hK.out _ _ q4 (fun _ => ?_)
                        clear hK K
                        try simp only [Act.put, List.setIfInBounds_toArray, List.set_cons_zero, List.set_cons_succ]
                        refine wpAnyH_ready (rs := [13]) (by kernel_rfl) (by simp) (AllReadyH.cons (o := ⟨_, _, _, _, _, _⟩) rfl (fun K hK => ?_) AllReadyH.nil)
                        rw [if_pos (by rfl)]
                        go_simp
                        refine (H22.out _ q4).mono ?_
                        rintro e W6 ⟨sy, rfl, hAy, hb⟩
                        obtain ⟨ua, uc, rfl⟩ := hAy.slice
                        have q6 : Below wr.heap.size wr W6 := q4.trans (hb.mono q4.size)
                        have zA := z6
                        replace z6 := (hb.block _ (Array.getElem?_eq_some_iff.1 z6).1).trans z6
                        refine hK.out _ _ q6 (fun _ => ?_)
                        clear hK K
                        try simp only [Act.put, List.setIfInBounds_toArray, List.set_cons_zero, List.set_cons_succ]
                        refine take_mk 14 (.tuple #[tval (askT s t) (.slice ua (askT s t).args.length uc), .int .i64 0]) rfl (by kernel_rfl) (by kernel_rfl) (by kernel_rfl) (fun _ _ _ h => h) (Or.inl ⟨by rfl, fun Z hZ => by go_simp⟩) (by assumption) ?_
                        try simp only [Act.put, List.setIfInBounds_toArray, List.set_cons_zero, List.set_cons_succ]
                        refine take_mk 15 (tval (askT s t) (.slice ua (askT s t).args.length uc)) rfl (by kernel_rfl) (by kernel_rfl) (by kernel_rfl) (fun _ _ _ h => h) (Or.inl ⟨by rfl, fun Z hZ => by go_simp⟩) (by assumption) ?_
                        try simp only [Act.put, List.setIfInBounds_toArray, List.set_cons_zero, List.set_cons_succ]
                        refine take_mk 16 (.int .i64 0) rfl (by kernel_rfl) (by kernel_rfl) (by kernel_rfl) (fun _ _ _ h => h) (Or.inl ⟨by rfl, fun Z hZ => by go_simp⟩) (by assumption) ?_
                        try simp only [Act.put, List.setIfInBounds_toArray, List.set_cons_zero, List.set_cons_succ]
                        refine wpAnyH_ready (rs := [18]) (by kernel_rfl) (by simp) (AllReadyH.cons (o := ⟨_, _, _, _, _, _⟩) rfl (fun K hK => ?_) AllReadyH.nil)
                        rw [if_pos (by rfl)]
                        obtain ⟨⟨k0, k1, k2⟩, y0, y1, y2⟩ := box_facts z6
                        go_simp
                        refine hK.out _ _ (set3_below q6 Wd.heap.size 0 _ _ _ hS.size) (fun _ => ?_)
                        clear hK K
                        try simp only [Act.put, List.setIfInBounds_toArray, List.set_cons_zero, List.set_cons_succ]
                        have qq := set3_below q6 Wd.heap.size 0 (.int .i64 (askT s t).v) (.string (askT s t).fn) (.slice ua (askT s t).args.length uc) hS.size
                        refine take_mk 19 (.int .i64 0) rfl (by kernel_rfl) (by kernel_rfl) (by kernel_rfl) (fun _ _ _ h => h) (Or.inl ⟨by rfl, fun Z hZ => by go_simp⟩) (by assumption) ?_
                        try simp only [Act.put, List.setIfInBounds_toArray, List.set_cons_zero, List.set_cons_succ]
                        refine wpAnyH_done (by kernel_rfl) ?_ _
                        try simp only [Act.put]
                        go_wp2
                        go_meet
                        exact ⟨Wd.heap.size, _, rfl, rfl, set3_box z6, (hAy.keep (W' := set3 W6 Wd.heap.size 0 _ _ _) (by simp) (fun k hk _ => set3_other _ _ _ _ _ _ k (by have := bW.size; have := (Array.getElem?_eq_some_iff.1 zA).1; omega))).args, qq⟩
                    case rest =>
                      obtain ⟨b15, sy, rfl, rfl, HY⟩ := hcut
                      obtain ⟨ua, uc, rfl, _, _⟩ := HY.out.2.1.slice
                      obtain ⟨⟨k0, k1, k2⟩, _⟩ := box_facts HY.out.1
                      have hb9 : wc.heap[b9]? = some (.cells #[.int .i64 (askT s t).v, .string (askT s t).fn, .slice xa (askT s t).args.length xc] 32 (0, 0)) := (HY.out.2.2.block b9 (Array.getElem?_eq_some_iff.1 H8.out.2.2.1).1).trans H8.out.2.2.1
                      obtain ⟨⟨l0, l1, l2⟩, _⟩ := box_facts hb9
                      have hsame := rsame_any (askT s t) (askT s t) _ _ wc HY.out.2.1 (ArgsAt.keep HY.out.2.2 (Nat.le_refl _) H8.out.2.2.2)
                      have hse : same (askT s t) (askT s t) = true := same_iff.2 rfl
                      rw [hse] at hsame
                      clear hb9 hse
                      go_wp2_with fail
                      refine hsame.mono ?_
                      rintro e W9 ⟨rfl, hb9⟩
                      have hbw : Below wr.heap.size wr W9 := HY.out.2.2.trans (hb9.mono HY.out.2.2.size)
                      have HN : Hid (One w w.heap.size w.heap.size es K q (.slice (some ⟨g, 0, none⟩) q.length qc) W9 ∧ Hits q (askT s t) k (.slice (some ⟨g2, 0, none⟩) hs.length hc) hs W9 ∧ W9.heap[b9]? = some (.cells #[.int .i64 (askT s t).v, .string (askT s t).fn, .slice xa (askT s t).args.length xc] 32 (0, 0)) ∧ ArgsAt W9 (.slice xa (askT s t).args.length xc) (askT s t).args) := ⟨H8.out.1.keep hbw, H8.out.2.1.keep hbw, (hbw.block b9 (Array.getElem?_eq_some_iff.1 H8.out.2.2.1).1).trans H8.out.2.2.1, ArgsAt.keep hbw (Nat.le_refl _) H8.out.2.2.2⟩
                      obtain ⟨r0, _, _, _, _⟩ := HC.out W9 hbw
                      obtain ⟨bm, hbm⟩ : ∃ b, among hs k3 k = b := ⟨_, rfl⟩
                      rw [hbm] at HAM ⊢
                      clear hsame hb9 hbw k0 k1 k2 l0 l1 l2 hbm HY HC H22
                      cases bm with
                      | true =>
                        go_wp2
                        go_roundw
                        case rel =>
                          exact ⟨k3 + 1, by omega, by go_num, by rw [HAM.out]; rfl, HN.out⟩
                        case measure => simp [intOf]; omega
                      | false =>
                        obtain ⟨bk, hbk⟩ : ∃ b, ((j : Int) == (k : Int)) = b := ⟨_, rfl⟩
                        rw [hbk] at HAM
                        cases bk with
                        | true =>
                          go_wp2
                          go_roundw
                          case rel =>
                            exact ⟨k3 + 1, by omega, by go_num, by rw [HAM.out]; rfl, HN.out⟩
                          case measure => simp [intOf]; omega
                        | false =>
                          go_wp2
                          go_roundw
                          case rel =>
                            exact ⟨k3 + 1, by omega, by go_num, by rw [HAM.out]; rfl, HN.out⟩
                          case measure => simp [intOf]; omega
                  · have hk3 : k3 = hs.length := by omega
                    subst hk3
                    have ham : among hs hs.length k = true := among_all H8.out.2.1.own
                    rw [ham]
                    go_wp2
                    go_roundw
                    case rel =>
                      exact ⟨k + 1, by omega, by go_num, H8.out.1⟩
                    case measure => simp [intOf]; omega
            · go_wp2
              go_ret
              exact ⟨rfl, HO.out.bel⟩

end Go.Proofs.YtijihmncbaoklaaGreat
