/-
  TermOnce's walk.
-/
import Derived.Test.YtbbfpllffcfmhaaWP
namespace Go.Proofs.Ytbbfpllffcfmhaa
open Go.RowKit Go.Maps

set_option maxRecDepth 100000 in
set_option maxHeartbeats 8000000 in
theorem once_many (ls : List T) (la : Option Addr) (lc : Nat) (w : World) (h50 : 50 < ls.length) :
    Calls Try.prog 7 #[.slice la ls.length lc] w fun e W => e = .returned (.bool true) ∧ Below w.heap.size w W := by
  have hnew := new_ok 1000000 w (by omega) (by omega) w.heap.size (Nat.le_refl _)
  have h50' : (50 : Int) < (ls.length : Int) := by omega
  go_enter Try.func7, Try.ntmps7
  go_wp2_with (first | (go_at_call 22; refine hnew.mono ?_; rintro e W1 ⟨Ba, B, rfl, hb, hlow, hb1⟩; have al := alive_any W1; clear hb hlow) | (go_at_call 17; refine al.mono ?_; rintro e W2 ⟨rfl, hb2⟩))
  go_ret
  exact ⟨rfl, hb1.trans (hb2.mono hb1.size)⟩

theorem hid {p : Prop} (h : p) : Hid p := h

theorem lit3 (W : World) (u v s : Value) : ∀ j x, [u, v, s][j]? = some x → (W.alloc (.cells #[u, v, s] 24)).cell? ((⟨W.heap.size, 0, none⟩ : Addr).add j) = some x := fun j x hj => by
  rw [Addr.add_mid, Nat.zero_add]
  exact cell_at (MapKept.heap_alloc W _).1 (by simpa using hj)

theorem on_row {w : World} {Ba i : Nat} {ids : List Int} {ps : List (T × Value)} {vi vk : Value} {t : T} {wr : World} (h : ON w Ba i ids ps vi vk t wr) (o : Obj) : (wr.alloc o).ownsRow w.heap.size 24 3 vk ps.length (flat ps) ∧ w.heap.size ≤ (wr.alloc o).heap.size := by
  obtain ⟨B, es, _, h2, _⟩ := h
  refine ⟨row_keep h2.kp fun g hg => (below_box wr _).block g (h2.lt2 hg).2, ?_⟩
  have := h2.bel.size
  simp
  omega

set_option maxRecDepth 100000 in
set_option maxHeartbeats 8000000 in
theorem once_few (ls : List T) (la : Option Addr) (lc : Nat) (w : World) (hl : ArgsAt w (.slice la ls.length lc) ls) (hS : ∀ t ∈ ls, Short t ∧ t.size ≤ 1048576) (h50 : ls.length ≤ 50) :
    Calls Try.prog 7 #[.slice la ls.length lc] w fun e W => e = .returned (.bool true) ∧ Below w.heap.size w W := by
  have hnew := new_ok 1000000 w (by omega) (by omega) w.heap.size (Nat.le_refl _)
  have HLs : Hid (ArgsAt w (.slice la ls.length lc) ls ∧ ∀ t ∈ ls, Short t ∧ t.size ≤ 1048576) := ⟨hl, hS⟩
  clear hl hS
  have h50' : (ls.length : Int) ≤ 50 := by omega
  obtain ⟨i1, hi1, hx0, hx1, hx2⟩ := info_parts Try.info3
  obtain ⟨i2, hi2, hiz⟩ := Option.map_eq_some_iff.1 info24
  simp only [Prod.mk.injEq] at hiz
  obtain ⟨hz0, hz1, hz2⟩ := hiz
  go_enter Try.func7, Try.ntmps7
  go_wp2_with (first | (go_at_call 22; refine hnew.mono ?_; rintro e W1 ⟨Ba, B, rfl, hb, hlow, hb1⟩; have HO : Hid (OI w Ba 0 [] [] (.slice none 0 0) (.slice none 0 0) W1) := ⟨B, [], hb, ORow.start w W1 hlow hb1, L1.nil, by simp, by simp⟩; clear hb hlow hb1))
  clear hnew
  go_loopw [5, 6, 7] (fun v5 v6 v7 wr => ∃ (i : Nat) (ids : List Int) (ps : List (T × Value)) (va : Option Addr) (vc : Nat) (ka : Option Addr) (kp : Nat), v5 = .slice va ids.length vc ∧ v6 = .slice ka ps.length kp ∧ v7 = .int .i64 i ∧ i ≤ ls.length ∧ Hid (OI w Ba i ids ps (.slice va ids.length vc) (.slice ka ps.length kp) wr)) (fun _ _ v7 _ => ls.length - (intOf v7).toNat)
  case atStart => exact ⟨0, [], [], none, 0, none, 0, rfl, rfl, rfl, Nat.zero_le _, HO⟩
  case round =>
    obtain ⟨i, ids, ps, va, vc, ka, kp, rfl, rfl, rfl, hi, HI⟩ := hrel
    clear HO
    by_cases hlt : i < ls.length
    · have hltI : (i : Int) < (ls.length : Int) := by omega
      have hge : (0 : Int) ≤ (i : Int) := by omega
      have hI := HI.out
      obtain ⟨b0, o0, s0, rfl, hb0, a0, a1, a2, has⟩ := HLs.out.1.nth hlt
      obtain ⟨hsh, hsz⟩ := HLs.out.2 ls[i] (List.getElem_mem hlt)
      obtain ⟨t, ht⟩ : ∃ t, ls[i] = t := ⟨_, rfl⟩
      rw [ht] at a0 a1 has hsh hsz
      clear ht
      have hbl := hI.bel
      have c0 := kc hbl hb0 a0
      have c1 := kc hbl hb0 a1
      have c2 := kc hbl hb0 a2
      have hsm := small_any t s0 wr (ArgsAt.keep hbl (Nat.le_refl _) has)
      obtain ⟨sa, sc, rfl, _, _⟩ := has.slice
      have HA : Hid (ArgsAt w (.slice sa t.args.length sc) t.args ∧ b0 < w.heap.size ∧ w.cell? ⟨b0, o0 + i * 3, none⟩ = some (.int .i64 t.v) ∧ w.cell? ⟨b0, o0 + i * 3 + 1, none⟩ = some (.string t.fn) ∧ w.cell? ⟨b0, o0 + i * 3 + 2, none⟩ = some (.slice sa t.args.length sc)) := ⟨has, hb0, a0, a1, a2⟩
      have HBl := hid hbl
      cases hsb : smallB t
      · rw [hsb] at hsm
        clear hsb hI HI hsh hsz hb0 a0 a1 a2 has HA hbl
        go_wp2_with (first | (go_at_call 24; refine hsm.mono ?_; rintro e W2 ⟨rfl, hb2⟩; have al := alive_any W2; clear hsm) | (go_at_call 17; refine al.mono ?_; rintro e W3 ⟨rfl, hb3⟩))
        go_ret
        exact ⟨rfl, HBl.out.trans ((hb2.trans (hb3.mono hb2.size)).mono HBl.out.size)⟩
      · rw [hsb] at hsm
        have hs3 : t.size ≤ 300 := by
          unfold smallB at hsb
          have := (Bool.and_eq_true_iff.1 hsb).1
          have hw : wrap64 t.size = t.size := by have := size_parts t []; unfold wrap64; omega
          rw [hw] at this
          exact of_decide_eq_true this
        by_cases hr : t.rightW = 0
        · have HM : Hid (∀ W, Below wr.heap.size wr W → Calls Try.prog 25 #[.pointer (some ⟨Ba, 0, none⟩), tval t (.slice sa t.args.length sc)] W fun e W' => ∃ j, e = .returned (.tuple #[.int .i64 j, .int .i64 0]) ∧ OM w Ba i ids ps (.slice va ids.length vc) (.slice ka ps.length kp) j t W') := fun W hW => (hI.keep hW).good (by omega) has hsh hr hs3
          clear hr hs3 hsb hI HI hsh hsz hb0 a0 a1 a2 has hbl
          go_wp2_with (first | (go_at_call 24; refine hsm.mono ?_; rintro e W2 ⟨rfl, hb2⟩; have HB2 : Hid (Below w.heap.size w W2) := HBl.out.trans (hb2.mono HBl.out.size); have e0 := kc HB2.out HA.out.2.1 HA.out.2.2.1; have e1 := kc HB2.out HA.out.2.1 HA.out.2.2.2.1; have e2 := kc HB2.out HA.out.2.1 HA.out.2.2.2.2; have hmk := HM.out W2 hb2; clear hsm HM c0 c1 c2 HBl) | (go_at_call 25; refine hmk.mono ?_; rintro e W3 ⟨j, rfl, hO3⟩; have HO3 := hid hO3; clear hO3 hmk e0 e1 e2 HB2 hb2))
          go_loopw [10] (fun v10 wq => ∃ k : Nat, v10 = .int .i64 k ∧ k ≤ ids.length ∧ Below W3.heap.size W3 wq) (fun v10 _ => ids.length - (intOf v10).toNat)
          case atStart => exact ⟨0, rfl, Nat.zero_le _, Below.refl _ _⟩
          case round =>
            obtain ⟨k, rfl, hk, hb5⟩ := hrel
            have HB5 := hid hb5
            have HO5 := hid (HO3.out.keep hb5)
            by_cases hlk : k < ids.length
            · have hkI : (k : Int) < (ids.length : Int) := by omega
              have hk0 : (0 : Int) ≤ (k : Int) := by omega
              have hO := HO5.out
              have hbw := hO.bel
              have hb0' : b0 < wr.heap.size := Nat.lt_of_lt_of_le HA.out.2.1 hbw.size
              have r0 := kc hbw HA.out.2.1 HA.out.2.2.1
              have r1 := kc hbw HA.out.2.1 HA.out.2.2.2.1
              have r2 := kc hbw HA.out.2.1 HA.out.2.2.2.2
              obtain ⟨B, es, _, hR, _, hll, heq, _⟩ := hO
              have hlk2 : k < (ps.map (·.1)).length := by simpa using (by omega : k < ps.length)
              have hkP : (k : Int) < (ps.length : Int) := by omega
              obtain ⟨gi, rfl, hgi, _, d0⟩ := row_get hR.row hlk
              have hkp := hR.kept
              obtain ⟨gk, ok, su, hka, hgk, q0, q1, q2, hus⟩ := hkp.nth hlk2
              subst hka
              have hxe := heq k hlk hlk2
              obtain ⟨x, hx⟩ : ∃ x, ids[k] = x := ⟨_, rfl⟩
              obtain ⟨u, hu⟩ : ∃ u, (ps.map (·.1))[k] = u := ⟨_, rfl⟩
              rw [hx] at d0 hxe
              rw [hu] at q0 q1 hus hxe
              obtain ⟨ua, uc, rfl, _, _⟩ := hus.slice
              have hdr : Below wr.heap.size wr wr.drew := (Below.refl _ wr).drew
              have ih' := (tsame_any u t (.slice ua u.args.length uc) (.slice sa t.args.length sc) wr.drew (ArgsAt.keep hdr (Nat.le_refl _) hus) (ArgsAt.keep hdr (Nat.le_refl _) (ArgsAt.keep hbw (Nat.le_refl _) HA.out.1))).mono (R' := fun e w' => e = .returned (.bool (same u t)) ∧ Below wr.heap.size wr w') (fun e w' h => ⟨h.1, hdr.trans h.2⟩)
              clear hR hkp hus hdr hbw hb5 hx hu hlk2 hll heq
              by_cases hxj : x = j
              · have hs1 : same u t = true := same_iff.2 (hxe.1 hxj)
                rw [hs1] at ih'
                subst hxj
                clear hxe hs1
                have HB6 := HB5
                go_wp2
                go_region_held3 (fun X => (X.cell? ⟨gi, k, none⟩ = some (.int .i64 x)) ∧ (X.cell? ⟨gk, ok + k * 3, none⟩ = some (.int .i64 u.v) ∧ X.cell? ⟨gk, ok + k * 3 + 1, none⟩ = some (.string u.fn) ∧ X.cell? ⟨gk, ok + k * 3 + 2, none⟩ = some (.slice ua u.args.length uc)) ∧ (X.cell? ⟨b0, o0 + i * 3, none⟩ = some (.int .i64 t.v) ∧ X.cell? ⟨b0, o0 + i * 3 + 1, none⟩ = some (.string t.fn) ∧ X.cell? ⟨b0, o0 + i * 3 + 2, none⟩ = some (.slice sa t.args.length sc))) (first | exact ⟨d0, ⟨q0, q1, q2⟩, r0, r1, r2⟩ | exact ⟨kc hb' hgi d0, ⟨kc hb' hgk q0, kc hb' hgk q1, kc hb' hgk q2⟩, kc hb' hb0' r0, kc hb' hb0' r1, kc hb' hb0' r2⟩) (first | (go_at_call 18; refine ih'.mono ?_; rintro e w' ⟨rfl, hb'⟩))
                go_wp2
                go_roundw
                case rel => exact ⟨k + 1, by go_num, by omega, HB6.out.trans (hb'.mono HB6.out.size)⟩
                case measure => simp [intOf]; omega
              · have hs1 : same u t = false := same_false.2 (fun e => hxj (hxe.2 e))
                rw [hs1] at ih'
                clear hxe hs1
                have HB6 := HB5
                go_wp2
                go_region_held3 (fun X => (X.cell? ⟨gi, k, none⟩ = some (.int .i64 x)) ∧ (X.cell? ⟨gk, ok + k * 3, none⟩ = some (.int .i64 u.v) ∧ X.cell? ⟨gk, ok + k * 3 + 1, none⟩ = some (.string u.fn) ∧ X.cell? ⟨gk, ok + k * 3 + 2, none⟩ = some (.slice ua u.args.length uc)) ∧ (X.cell? ⟨b0, o0 + i * 3, none⟩ = some (.int .i64 t.v) ∧ X.cell? ⟨b0, o0 + i * 3 + 1, none⟩ = some (.string t.fn) ∧ X.cell? ⟨b0, o0 + i * 3 + 2, none⟩ = some (.slice sa t.args.length sc))) (first | exact ⟨d0, ⟨q0, q1, q2⟩, r0, r1, r2⟩ | exact ⟨kc hb' hgi d0, ⟨kc hb' hgk q0, kc hb' hgk q1, kc hb' hgk q2⟩, kc hb' hb0' r0, kc hb' hb0' r1, kc hb' hb0' r2⟩) (first | (go_at_call 18; refine ih'.mono ?_; rintro e w' ⟨rfl, hb'⟩))
                go_wp2
                go_roundw
                case rel => exact ⟨k + 1, by go_num, by omega, HB6.out.trans (hb'.mono HB6.out.size)⟩
                case measure => simp [intOf]; omega
            · have hke : ¬ (k : Int) < (ids.length : Int) := by omega
              have hs5 : ids.length ≤ 50 ∧ ps.length ≤ 50 := by
                obtain ⟨B, es, _, _, _, hll, _, _, h7⟩ := HO5.out
                omega
              have HR1 : Hid ((wr.alloc (.cells #[.int .i64 j] 3)).ownsRow w.heap.size 3 1 (.slice va ids.length vc) ids.length (ids.map (Value.int .i64))) := by
                obtain ⟨B, es, _, h2, _⟩ := HO5.out
                exact row_keep h2.row fun g hg => (below_box wr _).block g (h2.lt1 hg).2
              have HU1 : Hid (w.heap.size ≤ (wr.alloc (.cells #[.int .i64 j] 3)).heap.size) := by
                show _ ≤ _
                have := HO5.out.bel.size
                simp
                omega
              clear hb5 HB5 HO3
              go_wp2_with (first
                | (at_builtin; refine wpList_append_own_at _ rfl _ _ 29 rfl w.heap.size 3 i1 (.int .i64 0) 1 8 Try.underlying29 hi1 hx0 hx1 hx2 rfl (by decide) _ _ _ rfl HR1.out ⟨wr.heap.size, 0, none⟩ 1 1 [.int .i64 j] rfl rfl (cell_one_new _ _ _) (by simp [Value.oneCell']) (by unfold maxLen; omega) (by omega) HU1.out ?_; intro v5 w5 hown hgrow _ hat; have HN := hid (HO5.out.push (below_box wr _) hown hgrow hat); obtain ⟨a5, c5, rfl⟩ := row_slice hown; have e0 := kc HN.out.bel HA.out.2.1 HA.out.2.2.1; have e1 := kc HN.out.bel HA.out.2.1 HA.out.2.2.2.1; have e2 := kc HN.out.bel HA.out.2.1 HA.out.2.2.2.2; have HR2 := hid (on_row HN.out (.cells #[.int .i64 t.v, .string t.fn, .slice sa t.args.length sc] 24)); clear hown hgrow hat HR1 HU1 HO5)
                | (at_builtin; refine wpList_append_own_at _ rfl _ _ 22 rfl w.heap.size 24 i2 (.agg #[.int .i64 0, .string ⟨#[]⟩, .slice none 0 0]) 3 48 Try.underlying22 hi2 hz0 hz1 hz2 rfl (by decide) _ _ _ rfl HR2.out.1 ⟨w5.heap.size, 0, none⟩ 1 1 [.int .i64 t.v, .string t.fn, .slice sa t.args.length sc] rfl rfl (lit3 w5 _ _ _) (by simp [Value.oneCell']) (by unfold maxLen; omega) (by omega) HR2.out.2 ?_; intro v6 w6 hown hgrow _ hat; have HN6 := hid (HN.out.push HA.out.1 (below_box w5 _) hown hgrow hat); obtain ⟨a6, c6, rfl⟩ := row_slice hown; clear hown hgrow hat HR2 HN e0 e1 e2))
              go_roundw
              case rel => exact ⟨i + 1, ids ++ [j], ps ++ [(t, .slice sa t.args.length sc)], a5, c5, a6, c6, by rw [List.length_append]; rfl, by rw [List.length_append]; rfl, by go_num, by omega, by rw [List.length_append, List.length_append]; exact HN6⟩
              case measure => simp [intOf]; omega
        · have HM : Hid (∀ W, Below wr.heap.size wr W → Calls Try.prog 25 #[.pointer (some ⟨Ba, 0, none⟩), tval t (.slice sa t.args.length sc)] W fun e W' => e = .returned (.tuple #[.int .i64 0, .int .i64 t.rightW]) ∧ OI w Ba (i + 1) ids ps (.slice va ids.length vc) (.slice ka ps.length kp) W') := fun W hW => (hI.keep hW).bad has hsh hr
          obtain ⟨rw', hrw⟩ : ∃ r, t.rightW = r := ⟨_, rfl⟩
          rw [hrw] at hr HM
          clear hrw hs3 hsb hI HI hsh hsz hb0 a0 a1 a2 has hbl
          go_wp2_with (first | (go_at_call 24; refine hsm.mono ?_; rintro e W2 ⟨rfl, hb2⟩; have HB2 : Hid (Below w.heap.size w W2) := HBl.out.trans (hb2.mono HBl.out.size); have e0 := kc HB2.out HA.out.2.1 HA.out.2.2.1; have e1 := kc HB2.out HA.out.2.1 HA.out.2.2.2.1; have e2 := kc HB2.out HA.out.2.1 HA.out.2.2.2.2; have hmk := HM.out W2 hb2; clear hsm HM c0 c1 c2 HBl) | (go_at_call 25; refine hmk.mono ?_; rintro e W3 ⟨rfl, hO3⟩; have HO3 := hid hO3; clear hO3 hmk e0 e1 e2 HB2 hb2))
          go_roundw
          case rel => exact ⟨i + 1, ids, ps, va, vc, ka, kp, rfl, rfl, by go_num, by omega, HO3⟩
          case measure => simp [intOf]; omega
    · have hi50 : i ≤ 50 := by omega
      have hni : ¬ (i : Int) < (ls.length : Int) := by omega
      have HJ := hid (HI.out.oj hi50)
      clear HI HLs hi50
      go_wp2
      go_loopw [11] (fun v11 wq => ∃ m : Nat, v11 = .int .i64 m ∧ m ≤ ids.length ∧ Hid (OJ w Ba m ids ps (.slice va ids.length vc) (.slice ka ps.length kp) [] wq)) (fun v11 _ => ids.length - (intOf v11).toNat)
      case atStart => exact ⟨0, rfl, Nat.zero_le _, HJ⟩
      case round =>
        obtain ⟨m, rfl, hm, HJm⟩ := hrel
        clear HJ
        by_cases hlm : m < ids.length
        · have hmI : (m : Int) < (ids.length : Int) := by omega
          have hm0 : (0 : Int) ≤ (m : Int) := by omega
          have hJ := HJm.out
          obtain ⟨hll, hl50⟩ := hJ.len
          have hlm2 : m < ps.length := by omega
          have hmP : (m : Int) < (ps.length : Int) := by omega
          have hlm3 : m < (ps.map (·.1)).length := by simpa using hlm2
          have hget := hJ.get hlm hlm2
          obtain ⟨B, es, f, _, hR, _⟩ := hJ
          obtain ⟨gi, rfl, hgi, _, d0⟩ := row_get hR.row hlm
          obtain ⟨gk, ok, su, hka, hgk, q0, q1, q2, hus⟩ := hR.kept.nth hlm3
          subst hka
          have HD : Hid (∀ E W, OJ w Ba m ids ps (.slice (some ⟨gi, 0, none⟩) ids.length vc) (.slice (some ⟨gk, ok, none⟩) ps.length kp) E W → _) := fun E W h => OJ.drop h hlm hlm2
          obtain ⟨x, hx⟩ : ∃ x, ids[m] = x := ⟨_, rfl⟩
          have hum : (ps.map (·.1))[m] = ps[m].1 := by simp
          rw [hum] at q0 q1 hus
          obtain ⟨u, hu⟩ : ∃ u, ps[m].1 = u := ⟨_, rfl⟩
          rw [hx] at d0 hget HD
          rw [hu] at q0 q1 hus hget
          obtain ⟨ua, uc, rfl, _, _⟩ := hus.slice
          have HUs := hid hus
          have HQ : Hid ((wr.cell? ⟨gi, m, none⟩ = some (.int .i64 x) ∧ gi < wr.heap.size) ∧ gk < wr.heap.size ∧ wr.cell? ⟨gk, ok + m * 3, none⟩ = some (.int .i64 u.v) ∧ wr.cell? ⟨gk, ok + m * 3 + 1, none⟩ = some (.string u.fn) ∧ wr.cell? ⟨gk, ok + m * 3 + 2, none⟩ = some (.slice ua u.args.length uc)) := ⟨⟨d0, hgi⟩, hgk, q0, q1, q2⟩
          clear hR hus hum hx hu hlm3 q0 q1 q2 hgi hgk hll hl50
          go_wp2_with (first | (go_at_call 29; refine hget.mono ?_; rintro e W5 ⟨xa, xc, rfl, hx5, hb5⟩; have HX5 := hid hx5; have HB5 := hid hb5; clear hget hx5 hb5 d0))
          obtain ⟨W6, hW6⟩ : ∃ X, W5.alloc (.cells #[.int .i64 u.v, .string u.fn, .slice xa u.args.length xc] 24) = X := ⟨_, rfl⟩
          have HJ6 : Hid (OJ w Ba m ids ps (.slice (some ⟨gi, 0, none⟩) ids.length vc) (.slice (some ⟨gk, ok, none⟩) ps.length kp) [W5.heap.size] W6) := by rw [← hW6]; exact HJm.out.box HB5.out _
          have b6 : Below W5.heap.size W5 W6 := by rw [← hW6]; exact below_box _ _
          have hB6 : Below wr.heap.size wr W6 := HB5.out.trans (b6.mono HB5.out.size)
          have n6 : W6.heap[W5.heap.size]? = some (.cells #[.int .i64 u.v, .string u.fn, .slice xa u.args.length xc] 24 (0, 0)) := by rw [← hW6]; exact (MapKept.heap_alloc _ _).1
          obtain ⟨⟨z0, z1, z2⟩, _⟩ := box_facts n6
          have hn6 : W5.heap.size < W6.heap.size := (Array.getElem?_eq_some_iff.1 n6).1
          have d0 := kc hB6 HQ.out.1.2 HQ.out.1.1
          have q0 := kc hB6 HQ.out.2.1 HQ.out.2.2.1
          have q1 := kc hB6 HQ.out.2.1 HQ.out.2.2.2.1
          have q2 := kc hB6 HQ.out.2.1 HQ.out.2.2.2.2
          have hgi : gi < W6.heap.size := Nat.lt_of_lt_of_le HQ.out.1.2 hB6.size
          have hgk : gk < W6.heap.size := Nat.lt_of_lt_of_le HQ.out.2.1 hB6.size
          have hdr : Below W6.heap.size W6 W6.drew := (Below.refl _ W6).drew
          have ih18 := (tsame_any u u (.slice xa u.args.length xc) (.slice ua u.args.length uc) W6.drew (ArgsAt.keep hdr (Nat.le_refl _) (ArgsAt.keep b6 (Nat.le_refl _) HX5.out)) (ArgsAt.keep hdr (Nat.le_refl _) (ArgsAt.keep hB6 (Nat.le_refl _) HUs.out))).mono (R' := fun e w' => e = .returned (.bool true) ∧ Below W6.heap.size W6 w') (fun e w' h => ⟨by rw [h.1, same_iff.2 rfl], hdr.trans h.2⟩)
          have HD6 : Hid (∀ W, Below W6.heap.size W6 W → Calls Try.prog 27 #[.pointer (some ⟨Ba, 0, none⟩), .int .i64 x] W fun e' W' => e' = .returned (.int .i64 0) ∧ Hid (OJ w Ba (m + 1) ids ps (.slice (some ⟨gi, 0, none⟩) ids.length vc) (.slice (some ⟨gk, ok, none⟩) ps.length kp) [] W') ∧ (W'.cell? ⟨gi, m, none⟩ = some (.int .i64 x)) ∧ (W'.cell? ⟨gk, ok + m * 3, none⟩ = some (.int .i64 u.v) ∧ W'.cell? ⟨gk, ok + m * 3 + 1, none⟩ = some (.string u.fn) ∧ W'.cell? ⟨gk, ok + m * 3 + 2, none⟩ = some (.slice ua u.args.length uc)) ∧ (W'.cell? ⟨W5.heap.size, 0, none⟩ = some (.int .i64 u.v) ∧ W'.cell? ⟨W5.heap.size, 1, none⟩ = some (.string u.fn) ∧ W'.cell? ⟨W5.heap.size, 2, none⟩ = some (.slice xa u.args.length xc))) := fun W hW => (HD.out _ W (HJ6.out.keep hW)).mono (by
            rintro e W' ⟨he, h1, h2⟩
            have kk : ∀ (g o : Nat) (v : Value), g < W6.heap.size → (g ∈ [W5.heap.size] ∨ (Value.slice (some ⟨gi, 0, none⟩) ids.length vc).ownBlock = some g ∨ (Value.slice (some ⟨gk, ok, none⟩) ps.length kp).ownBlock = some g ∨ g < w.heap.size) → W6.cell? ⟨g, o, none⟩ = some v → W'.cell? ⟨g, o, none⟩ = some v := fun g o v hg hc hv => (World.cell?_of_block (a := ⟨g, o, none⟩) (h2 g (Nat.lt_of_lt_of_le hg hW.size) hc)).trans (kc hW hg hv)
            exact ⟨he, h1, kk _ _ _ hgi (.inr (.inl rfl)) d0, ⟨kk _ _ _ hgk (.inr (.inr (.inl rfl))) q0, kk _ _ _ hgk (.inr (.inr (.inl rfl))) q1, kk _ _ _ hgk (.inr (.inr (.inl rfl))) q2⟩, kk _ _ _ hn6 (.inl (by simp)) z0, kk _ _ _ hn6 (.inl (by simp)) z1, kk _ _ _ hn6 (.inl (by simp)) z2⟩)
          try rw [hW6]
          clear hW6 HD HJ6 HJm HQ HUs HX5 HB5 b6 hB6 n6 hdr
          go_region_held3 (fun X => (X.cell? ⟨gi, m, none⟩ = some (.int .i64 x)) ∧ (X.cell? ⟨gk, ok + m * 3, none⟩ = some (.int .i64 u.v) ∧ X.cell? ⟨gk, ok + m * 3 + 1, none⟩ = some (.string u.fn) ∧ X.cell? ⟨gk, ok + m * 3 + 2, none⟩ = some (.slice ua u.args.length uc)) ∧ (X.cell? ⟨W5.heap.size, 0, none⟩ = some (.int .i64 u.v) ∧ X.cell? ⟨W5.heap.size, 1, none⟩ = some (.string u.fn) ∧ X.cell? ⟨W5.heap.size, 2, none⟩ = some (.slice xa u.args.length xc))) (first | exact ⟨d0, ⟨q0, q1, q2⟩, z0, z1, z2⟩ | exact ⟨kc hb' hgi d0, ⟨kc hb' hgk q0, kc hb' hgk q1, kc hb' hgk q2⟩, kc hb' hn6 z0, kc hb' hn6 z1, kc hb' hn6 z2⟩ | exact HF8) (first | (go_at_call 18; refine ih18.mono ?_; rintro e w' ⟨rfl, hb'⟩; have h27 := HD6.out w' hb') | (go_at_call 27; refine h27.mono ?_; rintro e W8 ⟨rfl, HJ8, HF8⟩))
          go_wp2
          go_roundw
          case rel => exact ⟨m + 1, by go_num, by omega, HJ8⟩
          case measure => simp [intOf]; omega
        · have hnm : ¬ (m : Int) < (ids.length : Int) := by omega
          have hme : ids.length ≤ m := by omega
          have hmk : Calls Try.prog 25 #[.pointer none, .agg #[.int .i64 0, .string ⟨#[]⟩, .slice none 0 0]] wr fun e w' => e = .returned (.tuple #[.int .i64 0, .int .i64 2]) ∧ Below wr.heap.size wr w' := make_nil (.mk 0 ⟨#[]⟩ []) none 0 0 wr
          go_wp2_with (first
            | (go_at_call 25; refine hmk.mono ?_; rintro e W5 ⟨rfl, hb5⟩; have HJ5 := hid (HJm.out.keep hb5); clear hmk hb5 HJm)
            | (go_at_call 29; refine (get_nil 1 W5).mono ?_; rintro e W6 ⟨rfl, hb6⟩; have HJ6 := hid ((HJ5.out.keep hb6).keep (below_box W6 (.cells #[.int .i64 0, .string ⟨#[]⟩, .slice none 0 0] 24))); clear hb6 HJ5)
            | (go_at_call 31; refine (HJ6.out.blen hme).mono ?_; rintro e W7 ⟨rfl, rfl⟩)
            | (go_at_call 27; refine (drop_nil 1 _).mono ?_; rintro e W8 ⟨rfl, rfl⟩)
            | (go_at_call 31; refine (blen_nil _).mono ?_; rintro e W9 ⟨rfl, rfl⟩)
            | (go_at_call 17; refine (alive_any _).mono ?_; rintro e W10 ⟨rfl, hb10⟩))
          go_ret
          exact ⟨rfl, HJ6.out.bel.trans (hb10.mono HJ6.out.bel.size)⟩

end Go.Proofs.Ytbbfpllffcfmhaa
