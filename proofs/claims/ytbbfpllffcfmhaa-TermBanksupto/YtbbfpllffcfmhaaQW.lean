/-
  TermBanks' walk.
-/
import Derived.Test.YtbbfpllffcfmhaaQV
import Derived.Deep.Cut
namespace Go.Proofs.Ytbbfpllffcfmhaa
open Go.RowKit Go.Maps
open Fq (Two Both law_make1 law_make2 law_drop1 law_drop2 law_get1 law_len GtE)

abbrev Sc := Int × Int × T × Value
def ScAt (W : World) (v : Value) (c : List Sc) : Prop :=
  ∃ a d, v = .slice a c.length d ∧ c.length ≤ d ∧ d ≤ 9223372036854775807 ∧ (0 < c.length → ∃ b o, b < W.heap.size ∧ a = some ⟨b, o, none⟩ ∧ ∀ i (h : i < c.length), W.cell? ⟨b, o + i * 5, none⟩ = some (.int .i64 c[i].1) ∧ W.cell? ⟨b, o + i * 5 + 1, none⟩ = some (.int .i64 c[i].2.1) ∧ W.cell? ⟨b, o + i * 5 + 2, none⟩ = some (.int .i64 c[i].2.2.1.v) ∧ W.cell? ⟨b, o + i * 5 + 3, none⟩ = some (.string c[i].2.2.1.fn) ∧ W.cell? ⟨b, o + i * 5 + 4, none⟩ = some c[i].2.2.2)
theorem ScAt.slice {W : World} {v : Value} {c : List Sc} (h : ScAt W v c) : ∃ a d, v = .slice a c.length d ∧ c.length ≤ d ∧ d ≤ 9223372036854775807 := by
  obtain ⟨a, d, h1, h2, h3, h4⟩ := h
  exact ⟨a, d, h1, h2, h3⟩
theorem ScAt.nth {W W' : World} {a : Option Addr} {n d : Nat} {c : List Sc} (h : ScAt W (.slice a n d) c) (hb : Below W.heap.size W W') {i : Nat} (hi : i < c.length) : ∃ b o, a = some ⟨b, o, none⟩ ∧ W'.cell? ⟨b, o + i * 5, none⟩ = some (.int .i64 c[i].1) ∧ W'.cell? ⟨b, o + i * 5 + 1, none⟩ = some (.int .i64 c[i].2.1) ∧ W'.cell? ⟨b, o + i * 5 + 2, none⟩ = some (.int .i64 c[i].2.2.1.v) ∧ W'.cell? ⟨b, o + i * 5 + 3, none⟩ = some (.string c[i].2.2.1.fn) ∧ W'.cell? ⟨b, o + i * 5 + 4, none⟩ = some c[i].2.2.2 := by
  obtain ⟨a', d', h1, h2, h3, h4⟩ := h
  obtain ⟨b, o, hlt, ha, hc⟩ := h4 (by omega)
  cases h1
  obtain ⟨q0, q1, q2, q3, q4⟩ := hc i hi
  exact ⟨b, o, ha, kc hb hlt q0, kc hb hlt q1, kc hb hlt q2, kc hb hlt q3, kc hb hlt q4⟩

theorem args_none (W : World) : ArgsAt W (.slice none 0 0) [] := ArgsAt.mk none 0 [] (fun _ => undef) (Nat.le_refl _) (by decide) (fun h => absurd h (by simp)) (fun i h => absurd h (by simp))

theorem dn_inj {ns : List Dn} (nod : (ns.map (·.id)).Nodup) {m n : Dn} (hm : m ∈ ns) (hn : n ∈ ns) (e : m.id = n.id) : m = n := by
  obtain ⟨i, hi, rfl⟩ := List.getElem_of_mem hm
  obtain ⟨k, hk, rfl⟩ := List.getElem_of_mem hn
  obtain rfl := Fq.ids_idx nod hi hk e
  rfl

theorem alive_ret (w : World) : Calls Try.prog 17 #[] w fun e w' => e = .returned (.bool true) ∧ Below w.heap.size w w' := alive_any w

set_option maxRecDepth 100000 in
set_option maxHeartbeats 4000000 in
theorem banks_bad (limit : Int) (n : Nat) (va : Option Addr) (vc : Nat) (w : World) (h : limit < 1 ∨ 1000000 < limit) :
    Calls Try.prog 6 #[.int .i64 limit, .slice va n vc] w fun e W => e = .returned (.bool true) ∧ Below w.heap.size w W := by
  have h1 := new_bad limit w h
  have h2 := dnew_bad limit w h
  have h3 := alive_any w
  by_cases hn : 60 < (n : Int)
  · go_enter Try.func6, Try.ntmps6
    go_wp2_with fail
    refine h1.mono ?_
    rintro e W1 ⟨rfl, rfl⟩
    go_wp2_with fail
    refine h2.mono ?_
    rintro e W2 ⟨rfl, rfl⟩
    clear h1 h2
    go_wp2_with fail
    refine h3.mono ?_
    rintro e W3 ⟨rfl, hb⟩
    go_wp2
    go_ret
    exact ⟨rfl, hb⟩
  · go_enter Try.func6, Try.ntmps6
    go_wp2_with fail
    refine h1.mono ?_
    rintro e W1 ⟨rfl, rfl⟩
    go_wp2_with fail
    refine h2.mono ?_
    rintro e W2 ⟨rfl, rfl⟩
    clear h1 h2
    go_wp2_with fail
    refine h3.mono ?_
    rintro e W3 ⟨rfl, hb⟩
    go_wp2
    go_ret
    exact ⟨rfl, hb⟩

set_option maxRecDepth 100000 in
set_option maxHeartbeats 16000000 in
theorem banks_ok (limit : Int) (c : List Sc) (va : Option Addr) (vc : Nat) (w : World) (hc : ScAt w (.slice va c.length vc) c) (hx : ∀ x ∈ c, ArgsAt w x.2.2.2 x.2.2.1.args ∧ Short x.2.2.1 ∧ Fit64 x.2.1 ∧ x.2.2.1.size ≤ 1048576) (h1 : 1 ≤ limit) (h2 : limit ≤ 1000000) :
    Calls Try.prog 6 #[.int .i64 limit, .slice va c.length vc] w fun e W => e = .returned (.bool true) ∧ Below w.heap.size w W := by
  have hp := new_ok limit w h1 h2 w.heap.size (Nat.le_refl _)
  have HL : Hid (1 ≤ limit ∧ limit ≤ 1000000) := ⟨h1, h2⟩
  have HC : Hid (ScAt w (.slice va c.length vc) c ∧ ∀ x ∈ c, ArgsAt w x.2.2.2 x.2.2.1.args ∧ Short x.2.2.1 ∧ Fit64 x.2.1 ∧ x.2.2.1.size ≤ 1048576) := ⟨hc, hx⟩
  clear hc hx h1 h2
  go_enter Try.func6, Try.ntmps6
  go_wp2_with fail
  refine hp.mono ?_
  rintro e W1 ⟨Ba, B, rfl, hbk, hB, hb1⟩
  have hd := dnew_ok w limit W1 HL.out.1 HL.out.2 w.heap.size hb1.size (Nat.le_refl _)
  have HB : Hid (BankSt w.heap.size Ba B limit [] [] W1 ∧ Below w.heap.size w W1) := ⟨hbk, hb1⟩
  clear hp hbk hB hb1
  go_wp2_with fail
  refine hd.mono ?_
  rintro e W2 ⟨rfl, hD, hb2⟩
  clear hd
  obtain ⟨Bd, hBd⟩ : ∃ b, W1.heap.size = b := ⟨_, rfl⟩
  rw [hBd] at hD ⊢
  have HT0 : Hid (Two w w.heap.size Ba Bd limit [] [] (.slice none 0 0) B [] W2 ∧ Both limit 0 [] []) := by
    have hth := HB.out.1.there
    refine ⟨⟨⟨[], HB.out.1.keep (fun r hr => hb2.block r (hth r hr).2), Fr.nil⟩, hD, fun hm => by have := (hth _ hm).2; omega, fun g hg => (by cases hg), fun b hb => (by cases hb), HB.out.2.trans (hb2.mono HB.out.2.size)⟩, Both.nil limit (by have := HL.out.1; omega)⟩
  have hal := alive_any W2
  have HB2 : Hid (Below w.heap.size w W2) := HT0.out.1.bel
  clear hD hb2 HB hBd
  by_cases hn : 60 < (c.length : Int)
  · go_wp2_with fail
    refine hal.mono ?_
    rintro e W3 ⟨rfl, hb⟩
    go_wp2
    go_ret
    exact ⟨rfl, HB2.out.trans (hb.mono HB2.out.size)⟩
  have hn60 : c.length ≤ 60 := by omega
  clear hal HB2
  go_wp2
  go_loopw [8] (fun vi wr => ∃ j : Nat, vi = .int .i64 j ∧ j ≤ c.length ∧ Hid (∃ es ns lv B, Two w w.heap.size Ba Bd limit es ns lv B [] wr ∧ Both limit j es ns)) (fun vi _ => c.length - (intOf vi).toNat)
  case atStart => exact ⟨0, rfl, Nat.zero_le _, _, _, _, _, HT0.out⟩
  case round =>
    obtain ⟨j, rfl, hj, HI⟩ := hrel
    clear HT0
    obtain ⟨es, ns, lv, B1, hT, hB⟩ := HI.out
    clear HI
    by_cases hlt : j < c.length
    · have hjI : (j : Int) < (c.length : Int) := by omega
      have hj0 : (0 : Int) ≤ (j : Int) := by omega
      obtain ⟨b, o, hva, x0, x1, x2, x3, x4⟩ := HC.out.1.nth hT.bel hlt
      subst hva
      obtain ⟨ha, hsh, hfi, hsz⟩ := HC.out.2 c[j] (List.getElem_mem hlt)
      obtain ⟨⟨kd, id, t, sl⟩, hq⟩ : ∃ q, c[j] = q := ⟨_, rfl⟩
      rw [hq] at x0 x1 x2 x3 x4 ha hsh hfi hsz
      simp only at x0 x1 x2 x3 x4 ha hsh hfi hsz
      obtain ⟨sa, sc, rfl, _, _⟩ := ha.slice
      obtain ⟨W4, h4⟩ : ∃ X, wr.alloc (.cells #[.int .i64 kd, .int .i64 id, .int .i64 t.v, .string t.fn, .slice sa t.args.length sc] 43) = X := ⟨_, rfl⟩
      obtain ⟨bo, hbo⟩ : ∃ n, wr.heap.size = n := ⟨_, rfl⟩
      have hT4 : Two w w.heap.size Ba Bd limit es ns lv B1 [bo] W4 := by rw [← h4, ← hbo]; exact hT.box _
      have hcell : W4.heap[bo]? = some (.cells #[.int .i64 kd, .int .i64 id, .int .i64 t.v, .string t.fn, .slice sa t.args.length sc] 43 (0, 0)) := by rw [← h4, ← hbo]; exact (MapKept.heap_alloc _ _).1
      have hsm := small_any t (.slice sa t.args.length sc) W4 (ArgsAt.keep hT4.bel (Nat.le_refl _) ha)
      have y2 : W4.cell? ⟨bo, 2, none⟩ = some (.int .i64 t.v) := cell_at hcell rfl
      have y3 : W4.cell? ⟨bo, 3, none⟩ = some (.string t.fn) := cell_at hcell rfl
      have y4 : W4.cell? ⟨bo, 4, none⟩ = some (.slice sa t.args.length sc) := cell_at hcell rfl
      have HT : Hid (Two w w.heap.size Ba Bd limit es ns lv B1 [bo] W4 ∧ Both limit j es ns) := ⟨hT4, hB⟩
      have HA : Hid (ArgsAt w (.slice sa t.args.length sc) t.args ∧ Short t ∧ Fit64 id ∧ t.size ≤ 1048576) := ⟨ha, hsh, hfi, hsz⟩
      have HX : Hid (∀ Z : World, Z.heap[bo]? = W4.heap[bo]? → Z.cell? ⟨bo, 0, none⟩ = some (.int .i64 kd) ∧ Z.cell? ⟨bo, 1, none⟩ = some (.int .i64 id) ∧ Z.cell? ⟨bo, 2, none⟩ = some (.int .i64 t.v) ∧ Z.cell? ⟨bo, 3, none⟩ = some (.string t.fn) ∧ Z.cell? ⟨bo, 4, none⟩ = some (.slice sa t.args.length sc)) := fun Z hZ => by
        have h5 := hZ.trans hcell
        exact ⟨cell_at h5 rfl, cell_at h5 rfl, cell_at h5 rfl, cell_at h5 rfl, cell_at h5 rfl⟩
      clear hT hB hq ha hsh hfi hsz hT4 hcell
      have HE4 := hid h4
      have HBo := hid hbo
      clear h4 hbo
      go_upto_region 11 with fail
      try rw [HE4.out]
      try rw [HBo.out]
      clear x0 x1 x2 x3 x4
      go_wp2_with fail
      refine hsm.mono ?_
      rintro e W5 ⟨rfl, hb5⟩
      clear hsm y2 y3 y4
      have hT5 := (HT.out.1.below hb5).1
      have hX5 := (HT.out.1.below hb5).2 bo (by simp)
      cases hs : smallB t with
      | false =>
        have hal := alive_any W5
        have HB5 : Hid (Below w.heap.size w W5) := hT5.bel
        clear hT5 hX5 hs
        go_wp2_with fail
        refine hal.mono ?_
        rintro e W6 ⟨rfl, hb⟩
        go_wp2
        go_ret
        exact ⟨rfl, HB5.out.trans (hb.mono HB5.out.size)⟩
      | true =>
        have hz : t.size ≤ 300 := by
          unfold smallB at hs
          simp only [Bool.and_eq_true, decide_eq_true_eq] at hs
          have h7 := hs.1
          have h8 := size_pos t
          have h9 := HA.out.2.2.2
          unfold wrap64 at h7
          omega
        obtain ⟨k0, k1, k2, k3, k4⟩ := HX.out W5 hX5
        have HT5 : Hid (Two w w.heap.size Ba Bd limit es ns lv B1 [bo] W5 ∧ Both limit j es ns ∧ W5.heap[bo]? = W4.heap[bo]?) := ⟨hT5, HT.out.2, hX5⟩
        have HZ : Hid (t.size ≤ 300) := hz
        clear hT5 hX5 hs hz HT
        by_cases e1 : kd = 1
        · subst e1
          have hm1 := law_make1 HT5.out.1 HT5.out.2.1 (by omega) HL.out.1 HL.out.2 t (.slice sa t.args.length sc) HA.out.1 HZ.out HA.out.2.1
          go_wp2_with fail
          refine hm1.mono ?_
          rintro e W6 ⟨xx, er, rfl, es2, B2, hT6, hM, hX6⟩
          clear hm1 k0 k1 k2 k3 k4
          have hX6 := (hX6 bo (by simp)).trans HT5.out.2.2
          obtain ⟨k0, k1, k2, k3, k4⟩ := HX.out W6 hX6
          have hm2 := law_make2 hT6 HT5.out.2.1 (by omega) t (.slice sa t.args.length sc) HA.out.1 HZ.out hM
          clear hT6 hM hX6
          go_wp2_with fail
          refine hm2.mono ?_
          rintro e W7 ⟨rfl, ns2, lv2, hT7, hB7, _⟩
          clear hm2 k0 k1 k2 k3 k4
          have hlq := (law_len (hT7.below (Below.refl _ W7).drew).1).mono (R' := fun e w' => e = .returned (.int .i64 es2.length) ∧ Below W7.heap.size W7 w') (fun e w' h => ⟨h.1, by rw [h.2]; exact (Below.refl _ _).drew⟩)
          have hl2 := hB7.ag.len
          rw [hl2] at hlq
          obtain ⟨va, vc, hlv⟩ := hT7.db.slice
          subst hlv
          have c1 := hT7.db.cells.2
          have hBl := hT7.db.lt.1
          obtain ⟨n2, hn2⟩ : ∃ n, ns2.length = n := ⟨_, rfl⟩
          rw [hn2] at c1 hlq
          have HE : Hid (∀ w', Below W7.heap.size W7 w' → ∃ es ns lv B, Two w w.heap.size Ba Bd limit es ns lv B [] w' ∧ Both limit (j + 1) es ns) := fun w' hb => ⟨_, _, _, _, ((hT7.below hb).1).less (by simp), hB7⟩
          clear hT7 hB7 hl2 hn2
          go_wp2
          go_region_held3 (fun Z => Z.cell? ⟨Bd, 1, none⟩ = some (.slice va n2 vc)) (first | exact c1 | exact kc hb' hBl c1) (first | (go_at_call 31; refine hlq.mono ?_; rintro e w' ⟨rfl, hb'⟩))
          have HE2 := hid (HE.out _ hb')
          clear HE hlq
          go_wp2
          go_roundw
          case rel => exact ⟨j + 1, by go_num, by omega, HE2⟩
          case measure => simp [intOf]; omega
        · by_cases e2 : kd = 2
          · subst e2
            have hm1 := law_drop1 HT5.out.1 HT5.out.2.1 (by omega) id HA.out.2.2.1
            go_wp2_with fail
            refine hm1.mono ?_
            rintro e W6 ⟨er, rfl, es2, B2, hT6, hM, hX6⟩
            clear hm1 k0 k1 k2 k3 k4
            have hX6 := (hX6 bo (by simp)).trans HT5.out.2.2
            obtain ⟨k0, k1, k2, k3, k4⟩ := HX.out W6 hX6
            have hm2 := law_drop2 hT6 HT5.out.2.1 (by omega) id hM
            clear hT6 hM hX6
            go_wp2_with fail
            refine hm2.mono ?_
            rintro e W7 ⟨bb, rfl, hbb, ns2, lv2, hT7, hB7, _⟩
            clear hm2 k0 k1 k2 k3 k4
            rcases hbb with ⟨rfl, rfl⟩ | ⟨rfl, rfl⟩
            · skip
              have hlq := (law_len (hT7.below (Below.refl _ W7).drew).1).mono (R' := fun e w' => e = .returned (.int .i64 es2.length) ∧ Below W7.heap.size W7 w') (fun e w' h => ⟨h.1, by rw [h.2]; exact (Below.refl _ _).drew⟩)
              have hl2 := hB7.ag.len
              rw [hl2] at hlq
              obtain ⟨va, vc, hlv⟩ := hT7.db.slice
              subst hlv
              have c1 := hT7.db.cells.2
              have hBl := hT7.db.lt.1
              obtain ⟨n2, hn2⟩ : ∃ n, ns2.length = n := ⟨_, rfl⟩
              rw [hn2] at c1 hlq
              have HE : Hid (∀ w', Below W7.heap.size W7 w' → ∃ es ns lv B, Two w w.heap.size Ba Bd limit es ns lv B [] w' ∧ Both limit (j + 1) es ns) := fun w' hb => ⟨_, _, _, _, ((hT7.below hb).1).less (by simp), hB7⟩
              clear hT7 hB7 hl2 hn2
              go_wp2
              go_region_held3 (fun Z => Z.cell? ⟨Bd, 1, none⟩ = some (.slice va n2 vc)) (first | exact c1 | exact kc hb' hBl c1) (first | (go_at_call 31; refine hlq.mono ?_; rintro e w' ⟨rfl, hb'⟩))
              have HE2 := hid (HE.out _ hb')
              clear HE hlq
              go_wp2
              go_roundw
              case rel => exact ⟨j + 1, by go_num, by omega, HE2⟩
              case measure => simp [intOf]; omega
            · skip
              have hlq := (law_len (hT7.below (Below.refl _ W7).drew).1).mono (R' := fun e w' => e = .returned (.int .i64 es2.length) ∧ Below W7.heap.size W7 w') (fun e w' h => ⟨h.1, by rw [h.2]; exact (Below.refl _ _).drew⟩)
              have hl2 := hB7.ag.len
              rw [hl2] at hlq
              obtain ⟨va, vc, hlv⟩ := hT7.db.slice
              subst hlv
              have c1 := hT7.db.cells.2
              have hBl := hT7.db.lt.1
              obtain ⟨n2, hn2⟩ : ∃ n, ns2.length = n := ⟨_, rfl⟩
              rw [hn2] at c1 hlq
              have HE : Hid (∀ w', Below W7.heap.size W7 w' → ∃ es ns lv B, Two w w.heap.size Ba Bd limit es ns lv B [] w' ∧ Both limit (j + 1) es ns) := fun w' hb => ⟨_, _, _, _, ((hT7.below hb).1).less (by simp), hB7⟩
              clear hT7 hB7 hl2 hn2
              go_wp2
              go_region_held3 (fun Z => Z.cell? ⟨Bd, 1, none⟩ = some (.slice va n2 vc)) (first | exact c1 | exact kc hb' hBl c1) (first | (go_at_call 31; refine hlq.mono ?_; rintro e w' ⟨rfl, hb'⟩))
              have HE2 := hid (HE.out _ hb')
              clear HE hlq
              go_wp2
              go_roundw
              case rel => exact ⟨j + 1, by go_num, by omega, HE2⟩
              case measure => simp [intOf]; omega
          · by_cases e3 : kd = 3
            · subst e3
              have hm1 := law_get1 HT5.out.1 HT5.out.2.1 id HA.out.2.2.1
              go_wp2_with fail
              refine hm1.mono ?_
              rintro e W6 ⟨tv, er, rfl, hT6, hG, hX6⟩
              clear hm1 k0 k1 k2 k3 k4
              have hX6 := (hX6 bo (by simp)).trans HT5.out.2.2
              rcases hG with ⟨⟨ni, nt, nsv, nk⟩, hn, hni, rfl, ga, gc, rfl, hga⟩ | ⟨hnone, rfl, rfl⟩
              · simp only at hni hga
                subst hni
                obtain ⟨W7, h7⟩ : ∃ X, W6.alloc (.cells #[.int .i64 nt.v, .string nt.fn, .slice ga nt.args.length gc] 24) = X := ⟨_, rfl⟩
                obtain ⟨bx, hbx⟩ : ∃ k, W6.heap.size = k := ⟨_, rfl⟩
                have b7 : Below W6.heap.size W6 W7 := by rw [← h7]; exact below_box _ _
                have hT7 : Two w w.heap.size Ba Bd limit es ns lv B1 [bx, bo] W7 := by rw [← h7, ← hbx]; exact hT6.box _
                have hc7 : W7.heap[bx]? = some (.cells #[.int .i64 nt.v, .string nt.fn, .slice ga nt.args.length gc] 24 (0, 0)) := by rw [← h7, ← hbx]; exact (MapKept.heap_alloc _ _).1
                have hX7 : W7.heap[bo]? = W4.heap[bo]? := (b7.block bo (hT6.oth bo (by simp)).2.2.2).trans hX6
                obtain ⟨k0, k1, k2, k3, k4⟩ := HX.out W7 hX7
                have hg2 := dget_any hT7.db ni (Nat.le_trans HT5.out.2.1.len (by omega))
                have HGa : Hid (ArgsAt W7 (.slice ga nt.args.length gc) nt.args) := ArgsAt.keep b7 (Nat.le_refl _) hga
                clear hga
                have HS7 : Hid (Two w w.heap.size Ba Bd limit es ns lv B1 [bx, bo] W7 ∧ W7.heap[bx]? = some (.cells #[.int .i64 nt.v, .string nt.fn, .slice ga nt.args.length gc] 24 (0, 0))) := ⟨hT7, hc7⟩
                have HE7 := hid h7
                have HBx := hid hbx
                clear hT6 hX6 h7 hbx b7 hT7 hc7 hX7
                go_upto_region 26 with fail
                try rw [HE7.out]
                try rw [HBx.out]
                clear HE7 HBx
                go_wp2_with fail
                refine hg2.mono ?_
                rintro e W8 ⟨hw8, hb8⟩
                clear hg2 k0 k1 k2 k3 k4
                obtain ⟨na, nc, hns, _, _⟩ := (HS7.out.1.db.args _ hn).slice
                simp only at hns
                subst hns
                obtain rfl : e = .returned (.tuple #[tval nt (.slice na nt.args.length nc), .bool true]) := by
                  rcases hw8 with ⟨m, hm, hmi, he⟩ | ⟨hno, _⟩
                  · rw [he, dn_inj HT5.out.2.1.ag.nod hm hn hmi]
                  · exact absurd rfl (hno _ hn)
                clear hw8
                obtain ⟨hT8, hX8⟩ := HS7.out.1.below hb8
                obtain ⟨W9, h9⟩ : ∃ X, W8.alloc (.cells #[.int .i64 nt.v, .string nt.fn, .slice na nt.args.length nc] 24) = X := ⟨_, rfl⟩
                obtain ⟨bz, hbz⟩ : ∃ k, W8.heap.size = k := ⟨_, rfl⟩
                have b9 : Below W8.heap.size W8 W9 := by rw [← h9]; exact below_box _ _
                have hT9 := (hT8.below b9).1
                have hc9 : W9.heap[bz]? = some (.cells #[.int .i64 nt.v, .string nt.fn, .slice na nt.args.length nc] 24 (0, 0)) := by rw [← h9, ← hbz]; exact (MapKept.heap_alloc _ _).1
                have hd9 : W9.heap[bx]? = some (.cells #[.int .i64 nt.v, .string nt.fn, .slice ga nt.args.length gc] 24 (0, 0)) := (b9.block bx (hT8.oth bx (by simp)).2.2.2).trans ((hX8 bx (by simp)).trans HS7.out.2)
                obtain ⟨⟨p0, p1, p2⟩, _⟩ := box_facts hc9
                obtain ⟨⟨q0, q1, q2⟩, _⟩ := box_facts hd9
                have hsame := rsame_any nt nt (.slice ga nt.args.length gc) (.slice na nt.args.length nc) W9 (ArgsAt.keep b9 (Nat.le_refl _) (ArgsAt.keep hb8 (Nat.le_refl _) HGa.out)) (ArgsAt.keep hT9.bel (Nat.le_refl _) (hT9.db.args _ hn))
                rw [same_iff.2 rfl] at hsame
                have HT9 := hid hT9
                have HE9 := hid h9
                have HBz := hid hbz
                clear HS7 hT8 hX8 h9 hbz b9 hT9 hc9 hd9 hb8
                go_upto_region 27 with fail
                try rw [HE9.out]
                try rw [HBz.out]
                clear HE9 HBz
                go_wp2_with fail
                refine hsame.mono ?_
                rintro e W10 ⟨rfl, hb10⟩
                clear hsame p0 p1 p2 q0 q1 q2
                have hT10 := ((HT9.out.below hb10).1).less (Y := []) (by simp)
                have hB10 := HT5.out.2.1.more
                clear hb10 HT9
                have hlq := (law_len (hT10.below (Below.refl _ W10).drew).1).mono (R' := fun e w' => e = .returned (.int .i64 es.length) ∧ Below W10.heap.size W10 w') (fun e w' h => ⟨h.1, by rw [h.2]; exact (Below.refl _ _).drew⟩)
                have hl2 := hB10.ag.len
                rw [hl2] at hlq
                obtain ⟨va, vc, hlv⟩ := hT10.db.slice
                subst hlv
                have c1 := hT10.db.cells.2
                have hBl := hT10.db.lt.1
                obtain ⟨n2, hn2⟩ : ∃ n, ns.length = n := ⟨_, rfl⟩
                rw [hn2] at c1 hlq
                have HE : Hid (∀ w', Below W10.heap.size W10 w' → ∃ es ns lv B, Two w w.heap.size Ba Bd limit es ns lv B [] w' ∧ Both limit (j + 1) es ns) := fun w' hb => ⟨_, _, _, _, ((hT10.below hb).1).less (by simp), hB10⟩
                clear hT10 hB10 hl2 hn2
                go_wp2
                go_region_held3 (fun Z => Z.cell? ⟨Bd, 1, none⟩ = some (.slice va n2 vc)) (first | exact c1 | exact kc hb' hBl c1) (first | (go_at_call 31; refine hlq.mono ?_; rintro e w' ⟨rfl, hb'⟩))
                have HE2 := hid (HE.out _ hb')
                clear HE hlq
                go_wp2
                go_roundw
                case rel => exact ⟨j + 1, by go_num, by omega, HE2⟩
                case measure => simp [intOf]; omega
              · skip
                obtain ⟨W7, h7⟩ : ∃ X, W6.alloc (.cells #[.int .i64 0, .string ⟨#[]⟩, .slice none 0 0] 24) = X := ⟨_, rfl⟩
                obtain ⟨bx, hbx⟩ : ∃ k, W6.heap.size = k := ⟨_, rfl⟩
                have b7 : Below W6.heap.size W6 W7 := by rw [← h7]; exact below_box _ _
                have hT7 : Two w w.heap.size Ba Bd limit es ns lv B1 [bx, bo] W7 := by rw [← h7, ← hbx]; exact hT6.box _
                have hc7 : W7.heap[bx]? = some (.cells #[.int .i64 0, .string ⟨#[]⟩, .slice none 0 0] 24 (0, 0)) := by rw [← h7, ← hbx]; exact (MapKept.heap_alloc _ _).1
                have hX7 : W7.heap[bo]? = W4.heap[bo]? := (b7.block bo (hT6.oth bo (by simp)).2.2.2).trans hX6
                obtain ⟨k0, k1, k2, k3, k4⟩ := HX.out W7 hX7
                have hg2 := dget_any hT7.db id (Nat.le_trans HT5.out.2.1.len (by omega))
                skip
                have HS7 : Hid (Two w w.heap.size Ba Bd limit es ns lv B1 [bx, bo] W7 ∧ W7.heap[bx]? = some (.cells #[.int .i64 0, .string ⟨#[]⟩, .slice none 0 0] 24 (0, 0))) := ⟨hT7, hc7⟩
                have HE7 := hid h7
                have HBx := hid hbx
                clear hT6 hX6 h7 hbx b7 hT7 hc7 hX7
                go_upto_region 26 with fail
                try rw [HE7.out]
                try rw [HBx.out]
                clear HE7 HBx
                go_wp2_with fail
                refine hg2.mono ?_
                rintro e W8 ⟨hw8, hb8⟩
                clear hg2 k0 k1 k2 k3 k4
                obtain rfl : e = .returned (.tuple #[.agg #[.int .i64 0, .string ⟨#[]⟩, .slice none 0 0], .bool false]) := by
                  rcases hw8 with ⟨m, hm, hmi, he⟩ | ⟨_, he⟩
                  · exact absurd hmi (hnone m hm)
                  · exact he
                clear hw8
                obtain ⟨hT8, hX8⟩ := HS7.out.1.below hb8
                obtain ⟨W9, h9⟩ : ∃ X, W8.alloc (.cells #[.int .i64 0, .string ⟨#[]⟩, .slice none 0 0] 24) = X := ⟨_, rfl⟩
                obtain ⟨bz, hbz⟩ : ∃ k, W8.heap.size = k := ⟨_, rfl⟩
                have b9 : Below W8.heap.size W8 W9 := by rw [← h9]; exact below_box _ _
                have hT9 := (hT8.below b9).1
                have hc9 : W9.heap[bz]? = some (.cells #[.int .i64 0, .string ⟨#[]⟩, .slice none 0 0] 24 (0, 0)) := by rw [← h9, ← hbz]; exact (MapKept.heap_alloc _ _).1
                have hd9 : W9.heap[bx]? = some (.cells #[.int .i64 0, .string ⟨#[]⟩, .slice none 0 0] 24 (0, 0)) := (b9.block bx (hT8.oth bx (by simp)).2.2.2).trans ((hX8 bx (by simp)).trans HS7.out.2)
                obtain ⟨⟨p0, p1, p2⟩, _⟩ := box_facts hc9
                obtain ⟨⟨q0, q1, q2⟩, _⟩ := box_facts hd9
                have hsame : Calls Try.prog 19 #[.agg #[.int .i64 0, .string ⟨#[]⟩, .slice none 0 0], .agg #[.int .i64 0, .string ⟨#[]⟩, .slice none 0 0]] W9 fun e w' => e = .returned (.bool (same (.mk 0 ⟨#[]⟩ []) (.mk 0 ⟨#[]⟩ []))) ∧ Below W9.heap.size W9 w' := rsame_any (.mk 0 ⟨#[]⟩ []) (.mk 0 ⟨#[]⟩ []) (.slice none 0 0) (.slice none 0 0) W9 (args_none W9) (args_none W9)
                rw [same_iff.2 rfl] at hsame
                have HT9 := hid hT9
                have HE9 := hid h9
                have HBz := hid hbz
                clear HS7 hT8 hX8 h9 hbz b9 hT9 hc9 hd9 hb8
                go_upto_region 27 with fail
                try rw [HE9.out]
                try rw [HBz.out]
                clear HE9 HBz
                go_wp2_with fail
                refine hsame.mono ?_
                rintro e W10 ⟨rfl, hb10⟩
                clear hsame p0 p1 p2 q0 q1 q2
                have hT10 := ((HT9.out.below hb10).1).less (Y := []) (by simp)
                have hB10 := HT5.out.2.1.more
                clear hb10 HT9
                have hlq := (law_len (hT10.below (Below.refl _ W10).drew).1).mono (R' := fun e w' => e = .returned (.int .i64 es.length) ∧ Below W10.heap.size W10 w') (fun e w' h => ⟨h.1, by rw [h.2]; exact (Below.refl _ _).drew⟩)
                have hl2 := hB10.ag.len
                rw [hl2] at hlq
                obtain ⟨va, vc, hlv⟩ := hT10.db.slice
                subst hlv
                have c1 := hT10.db.cells.2
                have hBl := hT10.db.lt.1
                obtain ⟨n2, hn2⟩ : ∃ n, ns.length = n := ⟨_, rfl⟩
                rw [hn2] at c1 hlq
                have HE : Hid (∀ w', Below W10.heap.size W10 w' → ∃ es ns lv B, Two w w.heap.size Ba Bd limit es ns lv B [] w' ∧ Both limit (j + 1) es ns) := fun w' hb => ⟨_, _, _, _, ((hT10.below hb).1).less (by simp), hB10⟩
                clear hT10 hB10 hl2 hn2
                go_wp2
                go_region_held3 (fun Z => Z.cell? ⟨Bd, 1, none⟩ = some (.slice va n2 vc)) (first | exact c1 | exact kc hb' hBl c1) (first | (go_at_call 31; refine hlq.mono ?_; rintro e w' ⟨rfl, hb'⟩))
                have HE2 := hid (HE.out _ hb')
                clear HE hlq
                go_wp2
                go_roundw
                case rel => exact ⟨j + 1, by go_num, by omega, HE2⟩
                case measure => simp [intOf]; omega
            · have hT7 := HT5.out.1
              have hB7 := HT5.out.2.1.more
              have hlq := (law_len (hT7.below (Below.refl _ W5).drew).1).mono (R' := fun e w' => e = .returned (.int .i64 es.length) ∧ Below W5.heap.size W5 w') (fun e w' h => ⟨h.1, by rw [h.2]; exact (Below.refl _ _).drew⟩)
              have hl2 := hB7.ag.len
              rw [hl2] at hlq
              obtain ⟨va, vc, hlv⟩ := hT7.db.slice
              subst hlv
              have c1 := hT7.db.cells.2
              have hBl := hT7.db.lt.1
              obtain ⟨n2, hn2⟩ : ∃ n, ns.length = n := ⟨_, rfl⟩
              rw [hn2] at c1 hlq
              have HE : Hid (∀ w', Below W5.heap.size W5 w' → ∃ es ns lv B, Two w w.heap.size Ba Bd limit es ns lv B [] w' ∧ Both limit (j + 1) es ns) := fun w' hb => ⟨_, _, _, _, ((hT7.below hb).1).less (by simp), hB7⟩
              clear hT7 hB7 hl2 hn2
              go_wp2
              go_region_held3 (fun Z => Z.cell? ⟨Bd, 1, none⟩ = some (.slice va n2 vc)) (first | exact c1 | exact kc hb' hBl c1) (first | (go_at_call 31; refine hlq.mono ?_; rintro e w' ⟨rfl, hb'⟩))
              have HE2 := hid (HE.out _ hb')
              clear HE hlq
              go_wp2
              go_roundw
              case rel => exact ⟨j + 1, by go_num, by omega, HE2⟩
              case measure => simp [intOf]; omega
    · have hjI : ¬ (j : Int) < (c.length : Int) := by omega
      have hal := alive_any wr
      have HBw : Hid (Below w.heap.size w wr) := hT.bel
      clear hT hB
      go_wp2_with fail
      refine hal.mono ?_
      rintro e W6 ⟨rfl, hb⟩
      go_wp2
      go_ret
      exact ⟨rfl, HBw.out.trans (hb.mono HBw.out.size)⟩

end Go.Proofs.Ytbbfpllffcfmhaa
