/-
  The document's Compose.
-/
import Derived.Test.YthinbkpjggihdaaTO
namespace Go.Proofs.Ythinbkpjggihdaa
open Go.Maps Go.RowKit

set_option maxRecDepth 100000 in
set_option maxHeartbeats 8000000 in
theorem rcompose_ok (s r : List Bd) (hs : Sb s) (hr : Sb r) (hfit : ∀ x ∈ s, fitsW (x.2.app (img r)) = 0) (hs2 : s.length ≤ 200) (hr2 : r.length ≤ 200) (v u : Value) (w : World) (hv : BindsAt w v s) (hu : BindsAt w u r) :
    Calls Try.prog 17 #[v, u] w fun e W' => ∃ v', e = .returned (.tuple #[v', .int .i64 0]) ∧ BindsAt W' v' (outL s r r.length) ∧ Below w.heap.size w W' := by
  have h14s := (ris_any s v w hv)
  have h14r : ∀ X, Below w.heap.size w X → Calls Try.prog 14 #[u] X fun e X' => e = .returned (.bool true) ∧ Below X.heap.size X X' := fun X hX => (ris_any r u X (hu.keep hX)).mono fun e X' ⟨he, h⟩ => ⟨by rw [he, isSub_iff.2 hr.sub], h⟩
  rw [isSub_iff.2 hs.sub] at h14s
  have h12 : ∀ X x sl, x ∈ s → Below w.heap.size w X → ArgsAt w sl x.2.args → Calls Try.prog 12 #[u, tval x.2 sl] X fun e X' => ∃ s5, e = .returned (.tuple #[tval (x.2.app (img r)) s5, .int .i64 0]) ∧ ArgsP (fun b => b < w.heap.size ∨ X.heap.size ≤ b) X' s5 (x.2.app (img r)).args ∧ Below X.heap.size X X' := fun X x sl hx hX ha => rapply_okP w r x.2 (isSub_iff.2 hr.sub) (hs.sub.right x hx) (fits_rt (app_shape _ (img_shape hr.sub) x.2 (hs.rt x hx).shape) (hfit x hx)).2 u sl X hX hu ha
  have HV : Hid (BindsAt w v s ∧ BindsAt w u r) := ⟨hv, hu⟩
  have H12 : Hid _ := h12
  obtain ⟨a, c, rfl⟩ := hv.slice
  obtain ⟨a', c', rfl⟩ := hu.slice
  obtain ⟨i0, hi0, hz0, hz1, hz2⟩ := info_parts Try.info35
  clear hv hu hs hr hfit h12
  go_enter Try.func17, Try.ntmps17
  go_wp2_with (first
    | (go_at_call 14; refine (h14r _ hb2).mono ?_; rintro e W3 ⟨rfl, hb3⟩; have HB3 : Hid (Below w.heap.size w W3) := hb2.trans (hb3.mono hb2.size); clear hb3)
    | (go_at_call 14; refine h14s.mono ?_; rintro e W2 ⟨rfl, hb2⟩))
  clear hb2 h14s h14r
  go_loopw [6, 7] (fun vo vi wr => ∃ i : Nat, vi = .int .i64 i ∧ i ≤ s.length ∧ Hid (∃ ps, RcI w s r i vo ps wr)) (fun _ vi _ => s.length - (intOf vi).toNat)
  case atStart => exact ⟨0, rfl, Nat.zero_le _, [], ⟨rfl, by simp, World.ownsRow_nil _ _ _ _, HB3.out⟩⟩
  case round =>
    obtain ⟨i, rfl, hi, ps, hI⟩ := hrel
    obtain ⟨pa, pc, hvo⟩ := rowB_form hI.row
    subst hvo
    obtain ⟨k, hk⟩ : ∃ k, ps.length = k := ⟨_, rfl⟩
    have hki := hI.len
    rw [hk] at hki
    have HI : Hid (RcI w s r i (.slice pa ps.length pc) ps wr) := hI
    by_cases hlt : i < s.length
    · obtain ⟨b, o, s1, e', hB0⟩ := HV.out.1.nth hlt
      cases e'
      have hmem := List.getElem_mem hlt
      obtain ⟨x, hx⟩ : ∃ x, s[i] = x := ⟨_, rfl⟩
      rw [hx] at hB0 hmem
      have HXE : Hid (s[i] = x) := hx
      obtain ⟨sa, sc, rfl, _, _⟩ := hB0.sub.slice
      have HX : Hid (∀ W, Below w.heap.size w W → W.cell? ⟨b, o + i * 4, none⟩ = some (.int .i64 x.1) ∧ W.cell? ⟨b, o + i * 4 + 1, none⟩ = some (.int .i64 x.2.v) ∧ W.cell? ⟨b, o + i * 4 + 2, none⟩ = some (.string x.2.fn) ∧ W.cell? ⟨b, o + i * 4 + 3, none⟩ = some (.slice sa x.2.args.length sc)) := fun W hW => by
        have hB1 := hB0.keep hW
        exact ⟨hB1.c0, hB1.c1, hB1.c2, hB1.c3⟩
      obtain ⟨g0, g1, g2, g3⟩ := HX.out wr hI.bel
      have hc := H12.out wr x _ hmem hI.bel hB0.sub
      obtain ⟨y, hy⟩ : ∃ y, x.2.app (img r) = y := ⟨_, rfl⟩
      rw [hy] at hc
      have HYE : Hid (x.2.app (img r) = y) := hy
      rw [hk] at HI ⊢
      clear hI hB0 hmem hx hy
      go_wp2_with (first
        | (go_at_call 12; refine hc.mono ?_; rintro e W5 ⟨s5, rfl, hA5, hb5⟩; obtain ⟨qa, qc, rfl⟩ := hA5.slice; have HB5 : Hid (Below w.heap.size w (W5.alloc (tbox y (.slice qa y.args.length qc))) ∧ Below wr.heap.size wr (W5.alloc (tbox y (.slice qa y.args.length qc)))) := ⟨HI.out.bel.trans ((hb5.trans ((below_box W5 _).mono hb5.size)).mono HI.out.bel.size), hb5.trans ((below_box W5 _).mono hb5.size)⟩; have HA5 : Hid (ArgsP (fun b => b < w.heap.size ∨ wr.heap.size ≤ b) W5 (.slice qa y.args.length qc) y.args) := hA5; obtain ⟨m0, m1, m2, m3⟩ := HX.out _ HB5.out.1; obtain ⟨n0, n1, n2⟩ := tbox_cells W5 y (.slice qa y.args.length qc); clear hA5 hb5 g0 g1 g2 g3))
      obtain ⟨W6, hW6⟩ : ∃ W6, W5.alloc (tbox y (.slice qa y.args.length qc)) = W6 := ⟨_, rfl⟩
      have hl5 : W5.heap.size < W6.heap.size := by rw [← hW6]; simp
      have hs6 : b < W6.heap.size := World.block_lt_of_cell? _ _ (hW6 ▸ m0)
      rw [hW6] at HB5 m0 m1 m2 m3 n0 n1 n2 ⊢
      have hbz := below_box W6 (.cells #[.int .i64 0, .int .i64 0, .string ⟨#[]⟩, .slice none 0 0] 35)
      have m0' := kc hbz hs6 m0
      have n0' := kc hbz hl5 n0
      have n1' := kc hbz hl5 n1
      have n2' := kc hbz hl5 n2
      have HA6 : Hid (ArgsP (fun b => b < w.heap.size ∨ wr.heap.size ≤ b) W6 (.slice qa y.args.length qc) y.args) := by
        rw [← hW6]
        exact HA5.out.keep (by simp) (fun k hk hlt => ⟨hk, (below_box W5 _).block k hlt⟩)
      clear hW6 hbz HA5
      go_region
      obtain ⟨q0, q1, q2, q3⟩ := bbox_cells W6 (x.1, y) (.slice qa y.args.length qc)
      have hb8 : Below W6.heap.size W6 (W6.alloc (.cells #[.int .i64 x.1, .int .i64 y.v, .string y.fn, .slice qa y.args.length qc] 35)).drew := (below_box W6 _).drew
      obtain ⟨W8, hW8⟩ : ∃ W8, (W6.alloc (.cells #[.int .i64 x.1, .int .i64 y.v, .string y.fn, .slice qa y.args.length qc] 35)).drew = W8 := ⟨_, rfl⟩
      have hl8 : W6.heap.size < W8.heap.size := by rw [← hW8]; show _ < (W6.alloc (.cells #[.int .i64 x.1, .int .i64 y.v, .string y.fn, .slice qa y.args.length qc] 35)).heap.size; simp
      obtain ⟨r0, r1, r2, r3⟩ : W8.cell? ⟨W6.heap.size, 0, none⟩ = some (.int .i64 x.1) ∧ W8.cell? ⟨W6.heap.size, 1, none⟩ = some (.int .i64 y.v) ∧ W8.cell? ⟨W6.heap.size, 2, none⟩ = some (.string y.fn) ∧ W8.cell? ⟨W6.heap.size, 3, none⟩ = some (.slice qa y.args.length qc) := by rw [← hW8]; exact ⟨q0, q1, q2, q3⟩
      rw [hW8] at hb8 ⊢
      have hc40 := rown_any (x.1, y) (.slice qa y.args.length qc) W8 ⟨_, _, _, rfl⟩
      have hol : own1 (x.1, y) = !lastB r x := by rw [← HYE.out]; exact own_last r x
      rw [hol] at hc40
      have HB8 : Hid (Below wr.heap.size wr W8) := HB5.out.2.trans (hb8.mono HB5.out.2.size)
      have HA8 : Hid (ArgsP (fun b => b < w.heap.size ∨ wr.heap.size ≤ b) W8 (.slice qa y.args.length qc) y.args) := HA6.out.keep hb8.size (fun k hk hlt => ⟨hk, hb8.block k hlt⟩)
      clear hW8 hb8 q0 q1 q2 q3 m0 m1 m2 m3 n0 n1 n2 m0' n0' n1' n2' hl5 hs6 hol
      cases hl : lastB r x
      · rw [hl] at hc40
        go_wp2_with (first
          | (go_at_call 40; refine hc40.mono ?_; rintro e W9 ⟨rfl, hb9⟩; have HB9 : Hid (Below wr.heap.size wr W9) := HB8.out.trans (hb9.mono HB8.out.size); clear hb9 hc40))
        go_roundw
        case rel => exact ⟨i + 1, by go_num, by omega, ps, (HI.out.keep HB9.out).skip hlt x HXE.out hl⟩
        case measure => simp [intOf]; omega
      · rw [hl] at hc40
        go_wp2_with (first
          | (at_builtin; have HR : Hid ((W9.alloc (.cells #[.int .i64 x.1, .int .i64 y.v, .string y.fn, .slice qa y.args.length qc] 35)).ownsRow w.heap.size 35 4 (.slice pa k pc) k (flatB ps)) := (by { have := rowB_below HI.out.row (HB9.out.1.trans ((below_box W9 (.cells #[.int .i64 x.1, .int .i64 y.v, .string y.fn, .slice qa y.args.length qc] 35)).mono HB9.out.1.size)); rwa [hk] at this }); have HS : Hid (w.heap.size ≤ (W9.alloc (.cells #[.int .i64 x.1, .int .i64 y.v, .string y.fn, .slice qa y.args.length qc] 35)).heap.size) := Nat.le_trans (Nat.le_trans HI.out.bel.size HB9.out.1.size) (by simp); refine wpList_append_own_at _ rfl _ _ 22 rfl w.heap.size 35 i0 (.agg #[.int .i64 0, .int .i64 0, .string ⟨#[]⟩, .slice none 0 0]) 4 56 Try.underlying22 hi0 hz0 hz1 hz2 rfl (by decide) _ _ _ rfl HR.out ⟨W9.heap.size, 0, none⟩ 1 1 [.int .i64 x.1, .int .i64 y.v, .string y.fn, .slice qa y.args.length qc] rfl rfl (lit4 W9 _ _ _ _ 35) (by simp [Value.oneCell']) (by unfold maxLen; omega) (by omega) HS.out ?_; intro v4 w4 h2 h3 _ h5; obtain ⟨pa4, pc4, rfl⟩ := rowB_form h2; have HO4 : Hid (RcI w s r (i + 1) (.slice pa4 (k + 1) pc4) (ps ++ [((x.1, y), .slice qa y.args.length qc)]) w4) := HI.out.push hlt x y HXE.out HYE.out hl HB9.out.1 _ HB9.out.2 _ (by rw [hk]; exact h2) h3 h5; clear h2 h3 h5 HR HS)
          | (go_at_call 40; refine hc40.mono ?_; rintro e W9 ⟨rfl, hb9⟩; have HB9 : Hid (Below wr.heap.size wr W9 ∧ ArgsP (fun b => b < w.heap.size ∨ wr.heap.size ≤ b) W9 (.slice qa y.args.length qc) y.args) := ⟨HB8.out.trans (hb9.mono HB8.out.size), HA8.out.keep hb9.size (fun k hk hlt => ⟨hk, hb9.block k hlt⟩)⟩; have z0 := kc hb9 hl8 r0; have z1 := kc hb9 hl8 r1; have z2 := kc hb9 hl8 r2; have z3 := kc hb9 hl8 r3; clear hb9 hc40))
        go_roundw
        case rel => exact ⟨i + 1, by go_num, by omega, _, HO4.out⟩
        case measure => simp [intOf]; omega
    · have HZ : Hid (BindsAt wr (.slice pa k pc) (outL s r 0) ∧ Below w.heap.size w wr) := by
        refine ⟨?_, HI.out.bel⟩
        have h3 := binds_of_row HI.out.row (fun p hp => (HI.out.ok p hp).args)
        rw [HI.out.args, List.take_of_length_le (by omega), hk] at h3
        exact h3
      clear hI HI hki
      rw [hk]
      clear hk
      go_wp2
      go_loopw [6, 11] (fun vo vi wr2 => ∃ i : Nat, vi = .int .i64 i ∧ i ≤ r.length ∧ Hid (BindsAt wr2 vo (outL s r i) ∧ Below w.heap.size w wr2)) (fun _ vi _ => r.length - (intOf vi).toNat)
      case atStart => exact ⟨0, rfl, Nat.zero_le _, HZ.out⟩
      case round =>
        obtain ⟨wr2, hw2⟩ : ∃ W, W = wr := ⟨_, rfl⟩
        subst hw2
        obtain ⟨j, rfl, hj, hBo, hbo⟩ := hrel
        have hol := outL_len s r j
        have HBo : Hid (BindsAt wr2 _ (outL s r j) ∧ Below w.heap.size w wr2) := ⟨hBo, hbo⟩
        obtain ⟨oa, oc, hvo⟩ := hBo.slice
        subst hvo
        by_cases hjt : j < r.length
        · obtain ⟨b, o, s1, e', hB0⟩ := HV.out.2.nth hjt
          cases e'
          have hB := hB0.keep hbo
          obtain ⟨x, hx⟩ : ∃ x, r[j] = x := ⟨_, rfl⟩
          have HXE : Hid (r[j] = x) := hx
          rw [hx] at hB hB0
          obtain ⟨sa, sc, rfl, _, _⟩ := hB.sub.slice
          have HX : Hid (∀ W, Below w.heap.size w W → W.cell? ⟨b, o + j * 4, none⟩ = some (.int .i64 x.1) ∧ W.cell? ⟨b, o + j * 4 + 1, none⟩ = some (.int .i64 x.2.v) ∧ W.cell? ⟨b, o + j * 4 + 2, none⟩ = some (.string x.2.fn) ∧ W.cell? ⟨b, o + j * 4 + 3, none⟩ = some (.slice sa x.2.args.length sc)) := fun W hW => by
            have hB1 := hB0.keep hW
            exact ⟨hB1.c0, hB1.c1, hB1.c2, hB1.c3⟩
          have HXs : Hid (b < w.heap.size ∧ ArgsAt w (.slice sa x.2.args.length sc) x.2.args) := ⟨hB0.lt, hB0.sub⟩
          clear hB hB0 hx hBo hbo
          go_wp2
          go_loopw [12, 13] (fun vq vk wr3 => ∃ (q : Bool) (m : Nat), vq = .bool q ∧ vk = .int .i64 m ∧ m ≤ s.length ∧ q = boundB (s.take m) x.1 ∧ Below wr2.heap.size wr2 wr3) (fun _ vk _ => s.length - (intOf vk).toNat)
          case atStart => exact ⟨false, 0, rfl, rfl, Nat.zero_le _, (bound_no (by simp)).symm, Below.refl _ _⟩
          case round =>
            obtain ⟨wr3, hw3⟩ : ∃ W, W = wr := ⟨_, rfl⟩
            subst hw3
            obtain ⟨q, m, rfl, rfl, hm, hq, hb3⟩ := hrel
            have hb3w : Below w.heap.size w wr3 := HBo.out.2.trans (hb3.mono HBo.out.2.size)
            by_cases hmt : m < s.length
            · obtain ⟨b2, o2, s2, e2, hB2⟩ := HV.out.1.nth hmt
              have hB3 := hB2.keep hb3w
              obtain ⟨y, hy⟩ : ∃ y, s[m] = y := ⟨_, rfl⟩
              have HN : Hid (boundB (s.take (m + 1)) x.1 = (q || decide (y.1 = x.1))) := by
                show _ = _
                rw [List.take_succ_eq_append_getElem hmt, bound_snoc, hy, ← hq]
              rw [hy] at hB3
              cases e2
              have g0 : wr3.cell? ⟨b2, o2 + m * 4, none⟩ = some (.int .i64 y.1) := hB3.c0
              have g1 := (HX.out wr3 hb3w).1
              have f0 := fun p => cell_far hB3.lt g0 p
              have f1 := fun p => cell_far (Nat.lt_of_lt_of_le HXs.out.1 hb3w.size) g1 p
              have j0 : (m : Int) < (s.length : Int) := by omega
              have j1 : (j : Int) < (r.length : Int) := by omega
              have HB3 : Hid (Below wr2.heap.size wr2 wr3) := hb3
              clear hB2 hB3 hb3 hb3w hy hq
              cases q
              · by_cases he : y.1 = x.1
                · have hd1 : decide (y.1 = x.1) = true := decide_eq_true he
                  have hd2 : (y.1 == x.1) = true := by simp [he]
                  have HN' : Hid (boundB (s.take (m + 1)) x.1 = true) := by show _ = _; rw [HN.out, hd1]; rfl
                  clear he HN
                  go_wp2
                  go_quiet (fail)
                  go_wp2
                  go_roundw
                  case rel => exact ⟨true, m + 1, rfl, by go_num, by omega, HN'.out.symm, HB3.out.trans ⟨rfl, rfl, rfl, Nat.le_refl _, fun _ _ => rfl⟩⟩
                  case measure => simp [intOf]; omega
                · have hd1 : decide (y.1 = x.1) = false := decide_eq_false he
                  have hd2 : (y.1 == x.1) = false := by simp [he]
                  have HN' : Hid (boundB (s.take (m + 1)) x.1 = false) := by show _ = _; rw [HN.out, hd1]; rfl
                  clear he HN
                  go_wp2
                  go_quiet (fail)
                  go_wp2
                  go_roundw
                  case rel => exact ⟨false, m + 1, rfl, by go_num, by omega, HN'.out.symm, HB3.out.trans ⟨rfl, rfl, rfl, Nat.le_refl _, fun _ _ => rfl⟩⟩
                  case measure => simp [intOf]; omega
              · go_wp2
                go_quiet (fail)
                go_wp2
                go_roundw
                case rel => exact ⟨_, m + 1, rfl, by go_num, by omega, by rw [HN.out]; rfl, HB3.out.trans ⟨rfl, rfl, rfl, Nat.le_refl _, fun _ _ => rfl⟩⟩
                case measure => simp [intOf]; omega
            · have hme : s.take m = s := List.take_of_length_le (by omega)
              rw [hme] at hq
              obtain ⟨g0, g1, g2, g3⟩ := HX.out wr3 hb3w
              have HB3 : Hid (Below wr2.heap.size wr2 wr3 ∧ Below w.heap.size w wr3) := ⟨hb3, hb3w⟩
              clear hme hb3 hb3w hm
              cases q
              · have hc := rwith_any (outL s r j) x (.slice oa (outL s r j).length oc) (.slice sa x.2.args.length sc) wr3 (HBo.out.1.keep HB3.out.1) (ArgsAt.keep HB3.out.2 (Nat.le_refl _) HXs.out.2) (by omega)
                have HN : Hid (outL s r (j + 1) = withL (outL s r j) x) := outL_push hjt x HXE.out hq.symm
                clear hq
                go_wp2_with (first | (go_at_call 41; refine hc.mono ?_; rintro e W4 ⟨v4, rfl, hB4, hb4⟩; obtain ⟨ea, ec, rfl⟩ := hB4.slice; have HB4 : Hid (BindsAt W4 (.slice ea (withL (outL s r j) x).length ec) (withL (outL s r j) x) ∧ Below w.heap.size w W4) := ⟨hB4, HB3.out.2.trans (hb4.mono HB3.out.2.size)⟩; clear hB4 hb4))
                go_roundw
                case rel => exact ⟨j + 1, by go_num, by omega, by rw [HN.out]; exact HB4.out.1, HB4.out.2⟩
                case measure => simp [intOf]; omega
              · have HN : Hid (outL s r (j + 1) = outL s r j) := outL_skip hjt x HXE.out hq.symm
                clear hq
                go_wp2
                go_roundw
                case rel => exact ⟨j + 1, by go_num, by omega, by rw [HN.out]; exact HBo.out.1.keep HB3.out.1, HB3.out.2⟩
                case measure => simp [intOf]; omega
        · have hjr : j = r.length := by omega
          subst hjr
          clear hBo hbo
          go_wp2
          go_ret2
          exact ⟨_, rfl, HBo.out.1, HBo.out.2⟩

theorem rapply_bad (l : List Bd) (t : T) (hl : isSub l = true) (ht0 : t.rightW = 0) (f : Int) (hf : f ≠ 0) (hr : (t.app (img l)).rightW = f) (v sl : Value) (w : World) (hb : BindsAt w v l) (ha : ArgsAt w sl t.args) :
    Calls Try.prog 12 #[v, tval t sl] w fun e W' => ∃ a c, e = .returned (.tuple #[tval zt (.slice a 0 c), .int .i64 f]) ∧ Below w.heap.size w W' := by
  refine (rapply_ok l t hl ht0 v sl w hb ha).mono fun e W' ⟨r, s5, he, hr', hA, h⟩ => ?_
  rw [hr, if_neg hf] at hr'
  subst hr'
  obtain ⟨a, c, rfl, _, _⟩ := hA.slice
  rw [hr] at he
  exact ⟨a, c, he, h⟩

set_option maxRecDepth 100000 in
set_option maxHeartbeats 2000000 in
theorem rcompose_arg (s r : List Bd) (hno : isSub s = false ∨ isSub r = false) (v u : Value) (w : World) (hv : BindsAt w v s) (hu : BindsAt w u r) :
    Calls Try.prog 17 #[v, u] w fun e W' => e = .returned (.tuple #[.slice none 0 0, .int .i64 1]) ∧ Below w.heap.size w W' := by
  have h14s := ris_any s v w hv
  have h14r : ∀ X, Below w.heap.size w X → Calls Try.prog 14 #[u] X fun e X' => e = .returned (.bool (isSub r)) ∧ Below X.heap.size X X' := fun X hX => ris_any r u X (hu.keep hX)
  obtain ⟨a, c, rfl⟩ := hv.slice
  obtain ⟨a', c', rfl⟩ := hu.slice
  clear hv hu
  cases e1 : isSub s
  · rw [e1] at h14s
    clear e1 hno h14r
    go_enter Try.func17, Try.ntmps17
    go_wp2_with (go_at_call 14; refine h14s.mono ?_; rintro e W2 ⟨rfl, hb2⟩)
    go_ret2
    exact ⟨rfl, hb2⟩
  · have e2 : isSub r = false := by
      rcases hno with h | h
      · rw [e1] at h; cases h
      · exact h
    rw [e1] at h14s
    rw [e2] at h14r
    clear e1 e2 hno
    go_enter Try.func17, Try.ntmps17
    go_wp2_with (first
      | (go_at_call 14; refine (h14r _ hb2).mono ?_; rintro e W3 ⟨rfl, hb3⟩)
      | (go_at_call 14; refine h14s.mono ?_; rintro e W2 ⟨rfl, hb2⟩))
    go_ret2
    exact ⟨rfl, hb2.trans (hb3.mono hb2.size)⟩

set_option maxRecDepth 100000 in
set_option maxHeartbeats 8000000 in
theorem rcompose_big (s r : List Bd) (hs : Sb s) (hr : Sb r) (kb : Nat) (hkb : kb < s.length) (f : Int) (hf : f ≠ 0) (hfit : ∀ j (hj : j < s.length), j < kb → fitsW (s[j].2.app (img r)) = 0) (hbad : fitsW (s[kb].2.app (img r)) = f) (hs2 : s.length ≤ 200) (v u : Value) (w : World) (hv : BindsAt w v s) (hu : BindsAt w u r) :
    Calls Try.prog 17 #[v, u] w fun e W' => e = .returned (.tuple #[.slice none 0 0, .int .i64 f]) ∧ Below w.heap.size w W' := by
  have h14s := (ris_any s v w hv)
  have h14r : ∀ X, Below w.heap.size w X → Calls Try.prog 14 #[u] X fun e X' => e = .returned (.bool true) ∧ Below X.heap.size X X' := fun X hX => (ris_any r u X (hu.keep hX)).mono fun e X' ⟨he, h⟩ => ⟨by rw [he, isSub_iff.2 hr.sub], h⟩
  rw [isSub_iff.2 hs.sub] at h14s
  have h12 : ∀ X x sl, x ∈ s → fitsW (x.2.app (img r)) = 0 → Below w.heap.size w X → ArgsAt w sl x.2.args → Calls Try.prog 12 #[u, tval x.2 sl] X fun e X' => ∃ s5, e = .returned (.tuple #[tval (x.2.app (img r)) s5, .int .i64 0]) ∧ ArgsP (fun b => b < w.heap.size ∨ X.heap.size ≤ b) X' s5 (x.2.app (img r)).args ∧ Below X.heap.size X X' := fun X x sl hx hfx hX ha => rapply_okP w r x.2 (isSub_iff.2 hr.sub) (hs.sub.right x hx) (fits_rt (app_shape _ (img_shape hr.sub) x.2 (hs.rt x hx).shape) hfx).2 u sl X hX hu ha
  have hbadr : (s[kb].2.app (img r)).rightW = f := by
    have h1 := hs.rt s[kb] (List.getElem_mem hkb)
    rw [right_fits (app_shape _ (img_shape hr.sub) _ h1.shape) (by have := app_size (img r) (img_size r hr.rt) s[kb].2; have := h1.size; omega)]
    exact hbad
  have h12b : ∀ X sl, Below w.heap.size w X → ArgsAt w sl s[kb].2.args → Calls Try.prog 12 #[u, tval s[kb].2 sl] X fun e X' => ∃ qa qc, e = .returned (.tuple #[tval zt (.slice qa 0 qc), .int .i64 f]) ∧ Below X.heap.size X X' := fun X sl hX ha => (rapply_bad r s[kb].2 (isSub_iff.2 hr.sub) (hs.sub.right _ (List.getElem_mem hkb)) f hf hbadr u sl X (hu.keep hX) (ArgsAt.keep hX (Nat.le_refl _) ha))
  have H12b : Hid _ := h12b
  have HV : Hid (BindsAt w v s ∧ BindsAt w u r) := ⟨hv, hu⟩
  have H12 : Hid _ := h12
  obtain ⟨a, c, rfl⟩ := hv.slice
  obtain ⟨a', c', rfl⟩ := hu.slice
  obtain ⟨i0, hi0, hz0, hz1, hz2⟩ := info_parts Try.info35
  have HF : Hid (∀ j (hj : j < s.length), j < kb → fitsW (s[j].2.app (img r)) = 0) := hfit
  clear hv hu hs hr hfit h12 hbad hbadr h12b
  go_enter Try.func17, Try.ntmps17
  go_wp2_with (first
    | (go_at_call 14; refine (h14r _ hb2).mono ?_; rintro e W3 ⟨rfl, hb3⟩; have HB3 : Hid (Below w.heap.size w W3) := hb2.trans (hb3.mono hb2.size); clear hb3)
    | (go_at_call 14; refine h14s.mono ?_; rintro e W2 ⟨rfl, hb2⟩))
  clear hb2 h14s h14r
  go_loopw [6, 7] (fun vo vi wr => ∃ i : Nat, vi = .int .i64 i ∧ i ≤ kb ∧ Hid (∃ ps, RcI w s r i vo ps wr)) (fun _ vi _ => s.length - (intOf vi).toNat)
  case atStart => exact ⟨0, rfl, Nat.zero_le _, [], ⟨rfl, by simp, World.ownsRow_nil _ _ _ _, HB3.out⟩⟩
  case round =>
    obtain ⟨i, rfl, hi, ps, hI⟩ := hrel
    obtain ⟨pa, pc, hvo⟩ := rowB_form hI.row
    subst hvo
    obtain ⟨k, hk⟩ : ∃ k, ps.length = k := ⟨_, rfl⟩
    have hki := hI.len
    rw [hk] at hki
    have HI : Hid (RcI w s r i (.slice pa ps.length pc) ps wr) := hI
    by_cases hlk : i < kb
    · have hlt : i < s.length := by omega
      obtain ⟨b, o, s1, e', hB0⟩ := HV.out.1.nth hlt
      cases e'
      have hmem := List.getElem_mem hlt
      have hfx := HF.out i hlt hlk
      obtain ⟨x, hx⟩ : ∃ x, s[i] = x := ⟨_, rfl⟩
      rw [hx] at hB0 hmem hfx
      have HXE : Hid (s[i] = x) := hx
      obtain ⟨sa, sc, rfl, _, _⟩ := hB0.sub.slice
      have HX : Hid (∀ W, Below w.heap.size w W → W.cell? ⟨b, o + i * 4, none⟩ = some (.int .i64 x.1) ∧ W.cell? ⟨b, o + i * 4 + 1, none⟩ = some (.int .i64 x.2.v) ∧ W.cell? ⟨b, o + i * 4 + 2, none⟩ = some (.string x.2.fn) ∧ W.cell? ⟨b, o + i * 4 + 3, none⟩ = some (.slice sa x.2.args.length sc)) := fun W hW => by
        have hB1 := hB0.keep hW
        exact ⟨hB1.c0, hB1.c1, hB1.c2, hB1.c3⟩
      obtain ⟨g0, g1, g2, g3⟩ := HX.out wr hI.bel
      have hc := H12.out wr x _ hmem hfx hI.bel hB0.sub
      obtain ⟨y, hy⟩ : ∃ y, x.2.app (img r) = y := ⟨_, rfl⟩
      rw [hy] at hc
      have HYE : Hid (x.2.app (img r) = y) := hy
      rw [hk] at HI ⊢
      clear hI hB0 hmem hx hy hfx
      go_wp2_with (first
        | (go_at_call 12; refine hc.mono ?_; rintro e W5 ⟨s5, rfl, hA5, hb5⟩; obtain ⟨qa, qc, rfl⟩ := hA5.slice; have HB5 : Hid (Below w.heap.size w (W5.alloc (tbox y (.slice qa y.args.length qc))) ∧ Below wr.heap.size wr (W5.alloc (tbox y (.slice qa y.args.length qc)))) := ⟨HI.out.bel.trans ((hb5.trans ((below_box W5 _).mono hb5.size)).mono HI.out.bel.size), hb5.trans ((below_box W5 _).mono hb5.size)⟩; have HA5 : Hid (ArgsP (fun b => b < w.heap.size ∨ wr.heap.size ≤ b) W5 (.slice qa y.args.length qc) y.args) := hA5; obtain ⟨m0, m1, m2, m3⟩ := HX.out _ HB5.out.1; obtain ⟨n0, n1, n2⟩ := tbox_cells W5 y (.slice qa y.args.length qc); clear hA5 hb5 g0 g1 g2 g3))
      obtain ⟨W6, hW6⟩ : ∃ W6, W5.alloc (tbox y (.slice qa y.args.length qc)) = W6 := ⟨_, rfl⟩
      have hl5 : W5.heap.size < W6.heap.size := by rw [← hW6]; simp
      have hs6 : b < W6.heap.size := World.block_lt_of_cell? _ _ (hW6 ▸ m0)
      rw [hW6] at HB5 m0 m1 m2 m3 n0 n1 n2 ⊢
      have hbz := below_box W6 (.cells #[.int .i64 0, .int .i64 0, .string ⟨#[]⟩, .slice none 0 0] 35)
      have m0' := kc hbz hs6 m0
      have n0' := kc hbz hl5 n0
      have n1' := kc hbz hl5 n1
      have n2' := kc hbz hl5 n2
      have HA6 : Hid (ArgsP (fun b => b < w.heap.size ∨ wr.heap.size ≤ b) W6 (.slice qa y.args.length qc) y.args) := by
        rw [← hW6]
        exact HA5.out.keep (by simp) (fun k hk hlt => ⟨hk, (below_box W5 _).block k hlt⟩)
      clear hW6 hbz HA5
      go_region
      obtain ⟨q0, q1, q2, q3⟩ := bbox_cells W6 (x.1, y) (.slice qa y.args.length qc)
      have hb8 : Below W6.heap.size W6 (W6.alloc (.cells #[.int .i64 x.1, .int .i64 y.v, .string y.fn, .slice qa y.args.length qc] 35)).drew := (below_box W6 _).drew
      obtain ⟨W8, hW8⟩ : ∃ W8, (W6.alloc (.cells #[.int .i64 x.1, .int .i64 y.v, .string y.fn, .slice qa y.args.length qc] 35)).drew = W8 := ⟨_, rfl⟩
      have hl8 : W6.heap.size < W8.heap.size := by rw [← hW8]; show _ < (W6.alloc (.cells #[.int .i64 x.1, .int .i64 y.v, .string y.fn, .slice qa y.args.length qc] 35)).heap.size; simp
      obtain ⟨r0, r1, r2, r3⟩ : W8.cell? ⟨W6.heap.size, 0, none⟩ = some (.int .i64 x.1) ∧ W8.cell? ⟨W6.heap.size, 1, none⟩ = some (.int .i64 y.v) ∧ W8.cell? ⟨W6.heap.size, 2, none⟩ = some (.string y.fn) ∧ W8.cell? ⟨W6.heap.size, 3, none⟩ = some (.slice qa y.args.length qc) := by rw [← hW8]; exact ⟨q0, q1, q2, q3⟩
      rw [hW8] at hb8 ⊢
      have hc40 := rown_any (x.1, y) (.slice qa y.args.length qc) W8 ⟨_, _, _, rfl⟩
      have hol : own1 (x.1, y) = !lastB r x := by rw [← HYE.out]; exact own_last r x
      rw [hol] at hc40
      have HB8 : Hid (Below wr.heap.size wr W8) := HB5.out.2.trans (hb8.mono HB5.out.2.size)
      have HA8 : Hid (ArgsP (fun b => b < w.heap.size ∨ wr.heap.size ≤ b) W8 (.slice qa y.args.length qc) y.args) := HA6.out.keep hb8.size (fun k hk hlt => ⟨hk, hb8.block k hlt⟩)
      clear hW8 hb8 q0 q1 q2 q3 m0 m1 m2 m3 n0 n1 n2 m0' n0' n1' n2' hl5 hs6 hol
      cases hl : lastB r x
      · rw [hl] at hc40
        go_wp2_with (first
          | (go_at_call 40; refine hc40.mono ?_; rintro e W9 ⟨rfl, hb9⟩; have HB9 : Hid (Below wr.heap.size wr W9) := HB8.out.trans (hb9.mono HB8.out.size); clear hb9 hc40))
        go_roundw
        case rel => exact ⟨i + 1, by go_num, by omega, ps, (HI.out.keep HB9.out).skip hlt x HXE.out hl⟩
        case measure => simp [intOf]; omega
      · rw [hl] at hc40
        go_wp2_with (first
          | (at_builtin; have HR : Hid ((W9.alloc (.cells #[.int .i64 x.1, .int .i64 y.v, .string y.fn, .slice qa y.args.length qc] 35)).ownsRow w.heap.size 35 4 (.slice pa k pc) k (flatB ps)) := (by { have := rowB_below HI.out.row (HB9.out.1.trans ((below_box W9 (.cells #[.int .i64 x.1, .int .i64 y.v, .string y.fn, .slice qa y.args.length qc] 35)).mono HB9.out.1.size)); rwa [hk] at this }); have HS : Hid (w.heap.size ≤ (W9.alloc (.cells #[.int .i64 x.1, .int .i64 y.v, .string y.fn, .slice qa y.args.length qc] 35)).heap.size) := Nat.le_trans (Nat.le_trans HI.out.bel.size HB9.out.1.size) (by simp); refine wpList_append_own_at _ rfl _ _ 22 rfl w.heap.size 35 i0 (.agg #[.int .i64 0, .int .i64 0, .string ⟨#[]⟩, .slice none 0 0]) 4 56 Try.underlying22 hi0 hz0 hz1 hz2 rfl (by decide) _ _ _ rfl HR.out ⟨W9.heap.size, 0, none⟩ 1 1 [.int .i64 x.1, .int .i64 y.v, .string y.fn, .slice qa y.args.length qc] rfl rfl (lit4 W9 _ _ _ _ 35) (by simp [Value.oneCell']) (by unfold maxLen; omega) (by omega) HS.out ?_; intro v4 w4 h2 h3 _ h5; obtain ⟨pa4, pc4, rfl⟩ := rowB_form h2; have HO4 : Hid (RcI w s r (i + 1) (.slice pa4 (k + 1) pc4) (ps ++ [((x.1, y), .slice qa y.args.length qc)]) w4) := HI.out.push hlt x y HXE.out HYE.out hl HB9.out.1 _ HB9.out.2 _ (by rw [hk]; exact h2) h3 h5; clear h2 h3 h5 HR HS)
          | (go_at_call 40; refine hc40.mono ?_; rintro e W9 ⟨rfl, hb9⟩; have HB9 : Hid (Below wr.heap.size wr W9 ∧ ArgsP (fun b => b < w.heap.size ∨ wr.heap.size ≤ b) W9 (.slice qa y.args.length qc) y.args) := ⟨HB8.out.trans (hb9.mono HB8.out.size), HA8.out.keep hb9.size (fun k hk hlt => ⟨hk, hb9.block k hlt⟩)⟩; have z0 := kc hb9 hl8 r0; have z1 := kc hb9 hl8 r1; have z2 := kc hb9 hl8 r2; have z3 := kc hb9 hl8 r3; clear hb9 hc40))
        go_roundw
        case rel => exact ⟨i + 1, by go_num, by omega, _, HO4.out⟩
        case measure => simp [intOf]; omega
    · have hik : i = kb := by omega
      subst hik
      obtain ⟨b, o, s1, e', hB0⟩ := HV.out.1.nth hkb
      cases e'
      have hB1 := hB0.keep hI.bel
      have hc := H12b.out wr _ hI.bel hB0.sub
      obtain ⟨x, hx⟩ : ∃ x, s[i] = x := ⟨_, rfl⟩
      rw [hx] at hB0 hB1 hc
      obtain ⟨sa, sc, rfl, _, _⟩ := hB0.sub.slice
      obtain ⟨g0, g1, g2, g3⟩ : wr.cell? ⟨b, o + i * 4, none⟩ = some (.int .i64 x.1) ∧ wr.cell? ⟨b, o + i * 4 + 1, none⟩ = some (.int .i64 x.2.v) ∧ wr.cell? ⟨b, o + i * 4 + 2, none⟩ = some (.string x.2.fn) ∧ wr.cell? ⟨b, o + i * 4 + 3, none⟩ = some (.slice sa x.2.args.length sc) := ⟨hB1.c0, hB1.c1, hB1.c2, hB1.c3⟩
      have hd : (f != 0) = true := by rw [bne_iff_ne]; exact hf
      have HB : Hid (Below w.heap.size w wr) := hI.bel
      clear hI hB0 hB1 hx HI H12b HF hki hk
      go_wp2_with (first
        | (go_at_call 12; refine hc.mono ?_; rintro e W5 ⟨qa, qc, rfl, hb5⟩; have HB5 : Hid (Below w.heap.size w W5) := HB.out.trans (hb5.mono HB.out.size); clear hb5))
      go_ret2
      exact ⟨rfl, HB5.out.trans ((below_box W5 _).mono HB5.out.size)⟩

end Go.Proofs.Ythinbkpjggihdaa
