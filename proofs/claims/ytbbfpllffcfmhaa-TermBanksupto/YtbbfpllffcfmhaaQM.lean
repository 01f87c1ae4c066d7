/-
  The document's Drop.
-/
import Derived.Test.YtbbfpllffcfmhaaQL
namespace Go.Proofs.Ytbbfpllffcfmhaa
open Go.RowKit Go.Maps

theorem lit5 (W : World) (a b d e f : Value) : ∀ j x, [a, b, d, e, f][j]? = some x → (W.alloc (.cells #[a, b, d, e, f] 89)).cell? ((⟨W.heap.size, 0, none⟩ : Addr).add j) = some x := fun j x hj => by
  rw [Addr.add_mid, Nat.zero_add]
  exact cell_at (MapKept.heap_alloc W _).1 (by simpa using hj)

/-- What the outer loop keeps. -/
def DL (_w0 : World) (ns : List Dn) (base k n : Nat) (v : Value) (W2 wr : World) : Prop := ∃ out : List Dn, out.length = n ∧ out = (ns.take k).filter (needB ns) ∧ wr.ownsRow base 89 5 v n (flat5 out) ∧ Below base W2 wr

section
variable {w0 : World} {n0 Bd : Nat} {limit : Int} {ns : List Dn} {W : World} {g c : Nat}

set_option maxRecDepth 100000 in
set_option maxHeartbeats 8000000 in
theorem ddrop_yes (h : DB w0 n0 Bd limit ns (.slice (some ⟨g, 0, none⟩) ns.length c) W) (hw : Below w0.heap.size w0 W) (id : Int) (hl : ns.length ≤ 1000000) (hsz : ∀ n ∈ ns, n.t.size ≤ 1048576) (k0 : Nat) (hk0 : k0 < ns.length) (hid0 : ns[k0].id = id) (hfst : ∀ j (hj : j < ns.length), j < k0 → ns[j].id ≠ id) (hkp : 0 < ns[k0].kept) (hkp2 : ns[k0].kept ≤ 1000000) :
    Calls Try.prog 28 #[.pointer (some ⟨Bd, 0, none⟩), .int .i64 id] W fun e W' => e = .returned (.bool true) ∧ ∃ lv', DB w0 n0 Bd limit ((ns.set k0 (ns[k0].put (ns[k0].kept - 1))).filter (needB (ns.set k0 (ns[k0].put (ns[k0].kept - 1))))) lv' W' ∧ (∀ g', lv'.ownBlock = some g' → W.heap.size ≤ g') ∧ Only [Bd, g] W W' := by
  have hat := dat_any h id (by omega)
  have hD1 := h.put hk0 (ns[k0].kept - 1)
  obtain ⟨_, c1⟩ := h.cells
  obtain ⟨g', e', hg, _, _, _, _, q4⟩ := h.nth hk0
  cases e'
  obtain ⟨fz1, fz2⟩ := h.froz
  have f4 := fz2 (k0 * 5 + 4)
  obtain ⟨kp, hkpe⟩ : ∃ z, ns[k0].kept = z := ⟨_, rfl⟩
  rw [hkpe] at q4 hkp hkp2 hD1 ⊢
  have hwk : wrap64 (kp - 1) = kp - 1 := by unfold wrap64; omega
  have hkz : (kp == 0) = false := by rw [beq_eq_false_iff_ne]; omega
  obtain ⟨N, hN⟩ : ∃ N, ns.length = N := ⟨_, rfl⟩
  have hN1 : (ns.set k0 (ns[k0].put (kp - 1))).length = N := by rw [List.length_set]; exact hN
  have hsz1 : ∀ n ∈ ns.set k0 (ns[k0].put (kp - 1)), n.t.size ≤ 1048576 := fun n hn => by
    rcases List.mem_or_eq_of_mem_set hn with h1 | h1
    · exact hsz n h1
    · rw [h1]; exact hsz ns[k0] (List.getElem_mem hk0)
  have HOn : Hid (Only [Bd, g] W (W.setCell ⟨g, k0 * 5 + 4, none⟩ (.int .i64 (kp - 1)))) := Only.of_grown (World.grownBy_setCell_any W g (k0 * 5 + 4) _) (fun r e => by cases e; simp)
  have HAt : Hid (∀ r, AtP ns (fun n => n.id = id) r → r = (k0 : Nat)) := by
    rintro r (⟨_, hn⟩ | ⟨k, hk, rfl, hp, hq⟩)
    · exact absurd hid0 (hn _ (List.getElem_mem hk0))
    · rcases Nat.lt_trichotomy k k0 with e | e | e
      · exact absurd hp (hfst k hk e)
      · rw [e]
      · exact absurd hid0 (hq k0 hk0 e)
  have hbs : Below w0.heap.size w0 (W.setCell ⟨g, k0 * 5 + 4, none⟩ (.int .i64 (kp - 1))) := hw.trans ((Below.refl _ W).setCell (p := ⟨g, k0 * 5 + 4, none⟩) (by have := h.hn0; have := (row_block h.row (g := g) rfl).1; show w0.heap.size ≤ g; omega) _)
  obtain ⟨n1, hn1⟩ : ∃ x, ns.set k0 (ns[k0].put (kp - 1)) = x := ⟨_, rfl⟩
  rw [hn1] at hD1 hN1 hsz1 ⊢
  rw [hN] at hD1 c1
  have hk0I : (k0 : Int) < (N : Int) := by omega
  have hk00 : (0 : Int) ≤ (k0 : Int) := by omega
  have hk01 : decide ((k0 : Int) < 0) = false := decide_eq_false (by omega)
  have hNl : N ≤ 1000000 := by omega
  obtain ⟨W2, hW2⟩ : ∃ X, W.setCell ⟨g, k0 * 5 + 4, none⟩ (.int .i64 (kp - 1)) = X := ⟨_, rfl⟩
  have HSz : Hid (W2.heap.size = W.heap.size) := by show _ = _; rw [← hW2]; simp
  rw [hW2] at hD1 HOn hbs
  rw [← hN1] at hD1
  have HD : Hid (DB w0 n0 Bd limit n1 (.slice (some ⟨g, 0, none⟩) n1.length c) W2 ∧ Below w0.heap.size w0 W2 ∧ ∀ n ∈ n1, n.t.size ≤ 1048576) := ⟨hD1, hbs, hsz1⟩
  have HN1 : Hid (n1.length = N) := hN1
  have hHat := hat
  clear h hw hsz hsz1 hfst hid0 hkp hkp2 hD1 hN1 hn1 hkpe hbs hN hat fz1 fz2 hl
  obtain ⟨i9, hi9, hz0, hz1, hz2⟩ := info_parts Try.info89
  go_enter Try.func28, Try.ntmps28
  go_wp2_with fail
  refine hHat.mono ?_
  rintro e W3 ⟨r, rfl, hr, rfl⟩
  obtain rfl := HAt.out r hr
  clear hHat hr HAt
  go_wp2
  try rw [hW2]
  clear hW2 q4 c1 f4 hwk
  go_loopw [6, 7] (fun v6 v7 wr => ∃ (k n : Nat) (va : Option Addr) (vc : Nat), v7 = .int .i64 k ∧ k ≤ N ∧ v6 = .slice va n vc ∧ Hid (DL w0 n1 W3.heap.size k n (.slice va n vc) W2 wr)) (fun _ v7 _ => N - (intOf v7).toNat)
  case atStart => exact ⟨0, 0, none, 0, rfl, Nat.zero_le _, rfl, [], rfl, by simp, World.ownsRow_nil _ _ _ _, Below.refl _ _⟩
  case round =>
    obtain ⟨k, n, va, vc, rfl, hk, rfl, HI⟩ := hrel
    have hbw : Below W2.heap.size W2 wr := by obtain ⟨out, _, _, _, h⟩ := HI.out; rw [HSz.out]; exact h
    have hDw := HD.out.1.below hbw
    obtain ⟨_, c1⟩ := hDw.cells
    rw [HN1.out] at c1
    have HDw := hid hDw
    have hw0 : Below w0.heap.size w0 wr := HD.out.2.1.trans (hbw.mono HD.out.2.1.size)
    have HW0 := hid hw0
    have hnN : n ≤ N := by
      obtain ⟨out, h1, h2, _⟩ := HI.out
      rw [← h1, h2]
      refine Nat.le_trans (List.length_filter_le _ _) ?_
      rw [List.length_take, HN1.out]
      omega
    by_cases hlt : k < N
    · have hkI : (k : Int) < (N : Int) := by omega
      have hk9 : (0 : Int) ≤ (k : Int) := by omega
      have hk1 : k < n1.length := by rw [HN1.out]; exact hlt
      obtain ⟨g2, e2, hgw, p0, p1, p2, p3, p4⟩ := hDw.nth hk1
      cases e2
      have hqs := hDw.args n1[k] (List.getElem_mem hk1)
      obtain ⟨qa, qc, hqe, _, _⟩ := hqs.slice
      obtain ⟨qq, hqq⟩ : ∃ q, n1[k] = q := ⟨_, rfl⟩
      rw [hqq] at p0 p1 p2 p3 p4 hqs hqe
      have HQ : Hid (n1[k] = qq) := hqq
      obtain ⟨qi, qt, qs, qk⟩ := qq
      simp only at p0 p1 p2 p3 p4 hqs hqe
      subst hqe
      have HQs := hid hqs
      clear hDw hqs hqq hw0 hbw
      go_wp2
      go_loopw [8, 9] (fun v8 v9 wq => ∃ (b : Bool) (j : Nat), v8 = .bool b ∧ v9 = .int .i64 j ∧ j ≤ N ∧ Hid (b = needB (n1.take j) n1[k]) ∧ Below wr.heap.size wr wq) (fun _ v9 _ => N - (intOf v9).toNat)
      case atStart => exact ⟨false, 0, rfl, rfl, Nat.zero_le _, (by show false = needB (n1.take 0) n1[k]; simp [needB]), Below.refl _ _⟩
      case round =>
        obtain ⟨b, j, rfl, rfl, hj, HB, hb5⟩ := hrel
        have hDq := HDw.out.below hb5
        obtain ⟨_, s1⟩ := hDq.cells
        rw [HN1.out] at s1
        have HB5 := hid hb5
        by_cases hlj : j < N
        · have hjI : (j : Int) < (N : Int) := by omega
          have hj9 : (0 : Int) ≤ (j : Int) := by omega
          have hj1 : j < n1.length := by rw [HN1.out]; exact hlj
          obtain ⟨g3, e3, hgq, _, r1, r2, r3, r4⟩ := hDq.nth hj1
          cases e3
          have hms := hDq.args n1[j] (List.getElem_mem hj1)
          have hmz := HD.out.2.2 n1[j] (List.getElem_mem hj1)
          obtain ⟨ma, mc, hme, _, _⟩ := hms.slice
          have HS := hid (need_snoc n1 n1[k] j hj1)
          rw [← HB.out, HQ.out] at HS
          obtain ⟨mm, hmm⟩ : ∃ q, n1[j] = q := ⟨_, rfl⟩
          rw [hmm] at r1 r2 r3 r4 hms hme hmz HS
          obtain ⟨mi, mt, mv, mk⟩ := mm
          simp only at r1 r2 r3 r4 hms hme hmz HS
          subst hme
          have u1 := kc hb5 hgw p1
          have u2 := kc hb5 hgw p2
          have u3 := kc hb5 hgw p3
          have hBl := hDq.lt.1
          have hwq := HW0.out.trans (hb5.mono HW0.out.size)
          have hdr : Below wr.heap.size wr wr.drew := (Below.refl _ wr).drew
          cases b
          · by_cases hmk : 0 < mk
            · have ih' := (dhas_any w0 mt qt (.slice ma mt.args.length mc) (.slice qa qt.args.length qc) wr.drew hms HQs.out (hwq.trans (hdr.mono hwq.size)) hmz).mono (R' := fun e w' => e = .returned (.bool (hasB mt qt)) ∧ Below wr.heap.size wr w') (fun e w' h => ⟨h.1, hdr.trans h.2⟩)
              have HE : Hid (hasB mt qt = needB (n1.take (j + 1)) n1[k]) := by show _ = _; rw [HQ.out, HS.out, decide_eq_true hmk]; rfl
              obtain ⟨hb, hhb⟩ : ∃ b, hasB mt qt = b := ⟨_, rfl⟩
              rw [hhb] at ih' HE
              clear hDq hms hmm hmz hwq hdr hb5 HB HS hhb
              go_wp2
              go_region_held3 (fun X => (X.cell? ⟨Bd, 1, none⟩ = some (.slice (some ⟨g, 0, none⟩) N c)) ∧ (X.cell? ⟨g, j * 5 + 4, none⟩ = some (.int .i64 mk) ∧ X.cell? ⟨g, j * 5 + 1, none⟩ = some (.int .i64 mt.v) ∧ X.cell? ⟨g, j * 5 + 2, none⟩ = some (.string mt.fn) ∧ X.cell? ⟨g, j * 5 + 3, none⟩ = some (.slice ma mt.args.length mc)) ∧ (X.cell? ⟨g, k * 5 + 1, none⟩ = some (.int .i64 qt.v) ∧ X.cell? ⟨g, k * 5 + 2, none⟩ = some (.string qt.fn) ∧ X.cell? ⟨g, k * 5 + 3, none⟩ = some (.slice qa qt.args.length qc))) (first | exact ⟨s1, ⟨r4, r1, r2, r3⟩, u1, u2, u3⟩ | exact ⟨kc hb' hBl s1, ⟨kc hb' hgq r4, kc hb' hgq r1, kc hb' hgq r2, kc hb' hgq r3⟩, kc hb' hgq u1, kc hb' hgq u2, kc hb' hgq u3⟩) (first | (go_at_call 55; refine ih'.mono ?_; rintro e w' ⟨rfl, hb'⟩))
              go_wp2
              go_roundw
              case rel => exact ⟨hb, j + 1, rfl, by go_num, by omega, HE, HB5.out.trans (hb'.mono HB5.out.size)⟩
              case measure => simp [intOf]; omega
            · have HE : Hid (false = needB (n1.take (j + 1)) n1[k]) := by show _ = _; rw [HQ.out, HS.out, decide_eq_false hmk]; rfl
              have hmd : decide (0 < mk) = false := decide_eq_false hmk
              clear hDq hms hmm hmz hwq hdr hb5 HB HS
              go_wp2
              go_quiet (fail)
              go_wp2
              go_roundw
              case rel => exact ⟨false, j + 1, by first | rfl | simp, by go_num, by omega, HE, HB5.out.trans (below_drewN (Below.refl _ _) _)⟩
              case measure => simp [intOf]; omega
          · have HE : Hid (true = needB (n1.take (j + 1)) n1[k]) := by show _ = _; rw [HQ.out, HS.out]; rfl
            clear hDq hms hmm hmz hwq hdr hb5 HB HS
            go_wp2
            go_quiet (fail)
            go_wp2
            go_roundw
            case rel => exact ⟨true, j + 1, by first | rfl | simp, by go_num, by omega, HE, HB5.out.trans (below_drewN (Below.refl _ _) _)⟩
            case measure => simp [intOf]; omega
        · have hjI : ¬ (j : Int) < (N : Int) := by omega
          have HBn : Hid (b = needB n1 n1[k]) := by
            show _ = _
            rw [HB.out, List.take_of_length_le (by rw [HN1.out]; omega)]
          have v0 := kc hb5 hgw p0
          have v1 := kc hb5 hgw p1
          have v2 := kc hb5 hgw p2
          have v3 := kc hb5 hgw p3
          have v4 := kc hb5 hgw p4
          cases b
          · have HE : Hid (DL w0 n1 W3.heap.size (k + 1) n (.slice va n vc) W2 wr) := by
              obtain ⟨out, h1, h2, h3, h4⟩ := HI.out
              refine ⟨out, h1, ?_, row_keep h3 (fun g' hg' => hb5.block g' (by obtain ⟨_, cq, hq⟩ := row_block h3 hg'; exact (Array.getElem?_eq_some_iff.1 hq).1)), h4.trans (hb5.mono (by have := h4.size; have := HSz.out; omega))⟩
              rw [List.take_succ_eq_append_getElem hk1, List.filter_append, List.filter_cons_of_neg (by rw [← HBn.out]; simp), h2]
              simp
            clear hDq hb5 HB HI
            go_wp2
            go_roundw
            case rel => exact ⟨k + 1, n, va, vc, by go_num, by omega, rfl, HE⟩
            case measure => simp [intOf]; omega
          · have HM : Hid (∃ out : List Dn, (wr.alloc (.cells #[.int .i64 qi, .int .i64 qt.v, .string qt.fn, .slice qa qt.args.length qc, .int .i64 qk] 89)).ownsRow W3.heap.size 89 5 (.slice va n vc) n (flat5 out) ∧ ∀ (v' : Value) (w' : World), w'.ownsRow W3.heap.size 89 5 v' (n + 1) (flat5 out ++ [.int .i64 qi, .int .i64 qt.v, .string qt.fn, .slice qa qt.args.length qc, .int .i64 qk]) → (wr.alloc (.cells #[.int .i64 qi, .int .i64 qt.v, .string qt.fn, .slice qa qt.args.length qc, .int .i64 qk] 89)).grownBy w' (Value.slice va n vc).ownBlock → DL w0 n1 W3.heap.size (k + 1) (n + 1) v' W2 w') := by
              obtain ⟨out, h1, h2, h3, h4⟩ := HI.out
              have hbx := below_box wr (.cells #[.int .i64 qi, .int .i64 qt.v, .string qt.fn, .slice qa qt.args.length qc, .int .i64 qk] 89)
              have hrow : wr.ownsRow W3.heap.size 89 5 (.slice va n vc) n (flat5 out) := row_keep h3 (fun g' hg' => hb5.block g' (by obtain ⟨_, cq, hq⟩ := row_block h3 hg'; exact (Array.getElem?_eq_some_iff.1 hq).1))
              have hbw : Below W3.heap.size W2 wr := h4.trans (hb5.mono (by have := h4.size; have := HSz.out; omega))
              have hss : W3.heap.size ≤ wr.heap.size := by have := hbw.size; have := HSz.out; omega
              refine ⟨out, row_keep hrow (fun g' hg' => hbx.block g' (by obtain ⟨_, cq, hq⟩ := row_block hrow hg'; exact (Array.getElem?_eq_some_iff.1 hq).1)), fun v' w' k1 k3 => ⟨out ++ [⟨qi, qt, .slice qa qt.args.length qc, qk⟩], by simp [h1], ?_, by rw [flat5_snoc]; exact k1, grown_below (hbw.trans (hbx.mono hss)) k3 (fun g' hg' => (row_block hrow hg').1) (Nat.le_trans hss hbx.size)⟩⟩
              rw [List.take_succ_eq_append_getElem hk1, List.filter_append, List.filter_cons_of_pos (by rw [← HBn.out]), h2, HQ.out]
              simp
            obtain ⟨out, hrow, HN⟩ := HM.out
            have HN' := hid HN
            have hss : W3.heap.size ≤ (wr.alloc (.cells #[.int .i64 qi, .int .i64 qt.v, .string qt.fn, .slice qa qt.args.length qc, .int .i64 qk] 89)).heap.size := by
              obtain ⟨_, _, _, _, h4⟩ := HI.out
              have := h4.size
              have := hb5.size
              have := HSz.out
              simp
              omega
            clear hDq hb5 HB HI HM HN
            go_wp2_with (at_builtin; refine wpList_append_own_at _ rfl _ _ 53 rfl W3.heap.size 89 i9 (.agg #[.int .i64 0, .int .i64 0, .string ⟨#[]⟩, .slice none 0 0, .int .i64 0]) 5 64 Try.underlying53 hi9 hz0 hz1 hz2 rfl (by decide) _ _ _ rfl hrow ⟨wr.heap.size, 0, none⟩ 1 1 [.int .i64 qi, .int .i64 qt.v, .string qt.fn, .slice qa qt.args.length qc, .int .i64 qk] rfl rfl (lit5 wr _ _ _ _ _) (by simp [Value.oneCell']) (by unfold maxLen; omega) (by omega) hss ?_; intro v3 w3 k1 k3 _ _; obtain ⟨a3, c3, rfl⟩ := row_slice k1; have HE := hid (HN'.out _ w3 k1 k3); clear k1 k3)
            go_roundw
            case rel => exact ⟨k + 1, n + 1, a3, c3, by go_num, by omega, rfl, HE⟩
            case measure => simp [intOf]; omega
    · have hkI : ¬ (k : Int) < (N : Int) := by omega
      have HE : Hid (∃ lv', lv' = Value.slice va n vc ∧ DB w0 n0 Bd limit (n1.filter (needB n1)) lv' (wr.setCell ⟨Bd, 1, none⟩ (.slice va n vc)) ∧ (∀ g', lv'.ownBlock = some g' → W3.heap.size ≤ g') ∧ Only [Bd, g] W3 (wr.setCell ⟨Bd, 1, none⟩ (.slice va n vc))) := by
        obtain ⟨out, h1, h2, h3, h4⟩ := HI.out
        rw [List.take_of_length_le (by rw [HN1.out]; omega)] at h2
        have hBl : Bd < W3.heap.size := by have := HD.out.1.lt.1; rw [HSz.out] at this; exact this
        have hlow := hDw.low
        have hown : ∀ g', (Value.slice va n vc).ownBlock = some g' → W3.heap.size ≤ g' := fun g' hg' => (row_block h3 hg').1
        refine ⟨_, rfl, ⟨?_, ?_, fun m hm => ?_, fun e => by have := hown Bd e; omega, hlow, hDw.hn0⟩, hown, ?_⟩
        · exact set_any (i := 1) hDw.head
        · rw [← h2, h1]
          exact row_lowB (row_keep h3 (fun g' hg' => Below.heap_setCell _ _ _ g' (by show g' ≠ Bd; have := hown g' hg'; omega))) (by omega)
        · exact hDw.args m (List.mem_filter.1 hm).1
        · exact (HOn.out.trans (Only.of_below (B := []) hbw) (by simp)).trans (Only.of_grown (B := [Bd]) (World.grownBy_setCell_any wr Bd 1 _) (fun r e => by cases e; simp)) (fun r hr => .inl (by simp at hr; simp [hr]))
      have fz := hDw.froz.1 1
      clear hDw hbw hw0 HI
      go_wp2
      go_ret
      obtain ⟨lv', rfl, r1, r2, r3⟩ := HE.out
      exact ⟨rfl, _, r1, r2, r3⟩

end

end Go.Proofs.Ytbbfpllffcfmhaa
