/-
  fitting and Generals, of an index with one term.
-/
import Derived.Test.YtiklbkkimmgbcaaFJ
import Derived.Maps.RangeWalk
import Derived.Maps.AppendAt
namespace Go.Proofs.Ytiklbkkimmgbcaa
open Go.RowKit Go.Maps

theorem FtAt.of_group {W : World} {g : Nat} {ty : TypeId} {a b c d : Ft} {v : Value} (h : W.heap[g]? = some (.cells (fcells a b c d ++ [v]).toArray ty (0, 0))) : FtAt W (.slice (some ⟨g, 0, none⟩) 4 4) [a, b, c, d] := by
  refine ⟨_, _, rfl, Nat.le_refl _, by omega, fun _ => ⟨g, 0, (Array.getElem?_eq_some_iff.1 h).1, rfl, fun i hi => ?_⟩⟩
  have hi4 : i < 4 := hi
  have : i = 0 ∨ i = 1 ∨ i = 2 ∨ i = 3 := by omega
  rcases this with rfl | rfl | rfl | rfl <;> exact ⟨cell_store h rfl, cell_store h rfl, cell_store h rfl⟩
/-- What comes out of a map with one key. -/
theorem one_entry {k : TypeId} {D : DataW Value} {K v0 : Value} (hR : ∀ key kl, keyOf Try.prog k key = some kl → (∀ v, upd (fun _ => none) K v0 key = some v → Maps.has D kl = true ∧ ∀ z, D.atKey kl z = .held v) ∧ (upd (fun _ => none) K v0 key = none → Maps.has D kl = false)) {x c : Value} {kl : Lit} (hx : keyOf Try.prog k x = some kl) {y : DataW Value × List MemPlace} (hy : Rid c = some y) (hat : ∀ zd, D.atKey kl zd = y.1) : x = K ∧ c = v0 := by
  have hy' : y = (.held c, []) := by unfold Rid at hy; cases hy; rfl
  subst hy'
  by_cases e : x = K
  · refine ⟨e, ?_⟩
    have h := ((hR x kl hx).1 v0 (by simp [upd, e])).2 (.held c)
    rw [hat] at h
    injection h
  · have h := (hR x kl hx).2 (by simp [upd, e])
    rw [Maps.has_true_of_atKey hat] at h
    cases h
theorem grown_of_below {A B : World} (hb : Below A.heap.size A B) (row : Option Nat) : A.grownBy B row := ⟨hb.os, hb.tape, hb.output, hb.size, fun k hk _ => hb.block k hk⟩
theorem below_of_grown {A B : World} {n : Nat} {row : Option Nat} (h : A.grownBy B row) (hn : n ≤ A.heap.size) (hr : ∀ r, row = some r → n ≤ r) : Below n A B := ⟨h.os, h.tape, h.output, h.size, fun k hk => h.block k (by omega) (fun e => by have := hr k e.symm; omega)⟩
theorem Try.info3q : (Try.prog.info? 3).map (fun i => (i.zero, i.size, i.bytes)) = some (some (.int .i64 0), 1, 8) := by kernel_rfl

theorem nums_of_own {W : World} {base : Nat} {v : Value} {id : Int} (h : W.ownsRow base 3 1 v 1 [.int .i64 id]) : RowAt (fun k : Int => .int .i64 k) W v [id] := by
  obtain ⟨_, h2⟩ := h
  rcases h2 with ⟨_, e⟩ | ⟨g, cap, cur, e1, e2, e3, e4, e5, e6, e7⟩
  · cases e
  · refine ⟨_, cap, e1, e4, by unfold maxLen at e5; omega, fun _ => ⟨g, 0, (Array.getElem?_eq_some_iff.1 e3).1, rfl, fun i hi => ?_⟩⟩
    have hi0 : i = 0 := by simp at hi; omega
    subst hi0
    have hc : cur[0]? = some (.int .i64 id) := by
      have : (cur.toList.take 1)[0]? = some (.int .i64 id) := by
        have e8 : cur.toList.take 1 = [.int .i64 id] := by simpa using e7
        rw [e8]; rfl
      simpa [List.getElem?_take] using this
    simp [World.cell?, e3, hc]

set_option maxRecDepth 100000 in
set_option maxHeartbeats 16000000 in
theorem fitting_one (w : World) (bx m1 m2 g m3 : Nat) (id : Int) (a b c d : Ft) (m : List Ft) (va : Value) (ba : Nat) (t : T) (s : Value) (hr : t.rightW = 0) (hsh : Short t) (W : World) (hI : Ix2 w bx m1 m2 g m3 id a b c d W) (ha : ArgsAt W s t.args) (hm : FtAt W va m) (hca : W.cell? ⟨ba, 0, none⟩ = some va) :
    Calls Try.prog 41 #[.pointer (some ⟨bx, 0, none⟩), tval t s, .func (.func 43) #[] #[.pointer (some ⟨ba, 0, none⟩)]] W fun e W' => ∃ v, e = .returned v ∧ RowAt (fun k : Int => .int .i64 k) W' v (if fitB matB [a, b, c, d] m = true then [id] else []) ∧ Below W.heap.size W W' := by
  obtain ⟨W1, h1⟩ : ∃ X, W.alloc (tbox t s) = X := ⟨_, rfl⟩
  have b1 : Below W.heap.size W W1 := by rw [← h1]; exact below_box _ _
  have s1 : W1.heap.size = W.heap.size + 1 := by rw [← h1]; simp
  obtain ⟨x0, x1, x2⟩ := tbox_cells W t s
  rw [h1] at x0 x1 x2
  have hc39 := tright_any t s W1 (ArgsAt.keep b1 (Nat.le_refl _) ha) hsh
  rw [hr] at hc39
  have lba : ba < W.heap.size := World.block_lt_of_cell? W _ hca
  have HA : Hid (∀ Z, Below W.heap.size W Z → Ix2 w bx m1 m2 g m3 id a b c d Z ∧ FtAt Z va m ∧ Z.cell? ⟨ba, 0, none⟩ = some va) := fun Z hZ => ⟨hI.keep hZ, hm.keep hZ (Nat.le_refl _), kc hZ lba hca⟩
  have HB : Hid (Below W.heap.size W W1) := b1
  obtain ⟨i0, hi0, hz0, hz1, hz2⟩ := info_parts Try.info3q
  obtain ⟨sa, sc, rfl, _, _⟩ := ha.slice
  obtain ⟨fb, hfb⟩ : ∃ z, fitB matB [a, b, c, d] m = z := ⟨_, rfl⟩
  have HFB : Hid (fitB matB [a, b, c, d] m = fb) := hfb
  rw [hfb]
  obtain ⟨L, hL⟩ : ∃ L, (if fb = true then [id] else []) = L := ⟨_, rfl⟩
  have HLs : Hid ((if fb = true then [id] else []) = L) := hL
  rw [hL]
  clear hL
  clear b1 ha hI hr hsh hm hca lba hfb
  go_enter Try.func41, Try.ntmps41
  try rw [h1]
  go_wp2_with fail
  try rw [h1]
  refine hc39.mono ?_
  rintro e W2 ⟨rfl, b2⟩
  have HB2 : Hid (Below W.heap.size W W2) := HB.out.trans (b2.mono HB.out.size)
  obtain ⟨hI2, _, _⟩ := HA.out W2 HB2.out
  obtain ⟨D, hown, hDs, hRel⟩ := hI2.gr
  have c0 : W2.cell? ⟨bx, 0, none⟩ = some (.map (some m1)) := by simp [World.cell?, hI2.box]
  have HRel : Hid (∀ key kl, keyOf Try.prog 66 key = some kl → (∀ v, upd (fun _ => none) (.agg (fcells a b c d).toArray) (.pointer (some ⟨g, 0, none⟩)) key = some v → Maps.has D kl = true ∧ ∀ z, D.atKey kl z = .held v) ∧ (upd (fun _ => none) (.agg (fcells a b c d).toArray) (.pointer (some ⟨g, 0, none⟩)) key = none → Maps.has D kl = false)) := hRel
  clear hc39 x0 x1 x2 hI2 hRel b2
  go_wp2_with (first | (at_range; refine wpList_range_own _ rfl _ 72 rfl 66 77 keyed66 Try.underlying72 Rid m1 1 D rfl hown ?_; intro w0 hrg0 hg0 hs0) | go_in)
  go_frame
  have B0 : Below W.heap.size W w0 := HB2.out.trans (below_of_grown hg0 HB2.out.size (fun r e => by cases e))
  have hr1 : Hid (W.heap.size ≤ W2.heap.size) := HB2.out.size
  obtain ⟨r1, hr1e⟩ : ∃ n, W2.heap.size = n := ⟨_, rfl⟩
  rw [hr1e] at hrg0 hr1 ⊢
  have H0 : Hid (w0.ranges Try.prog 66 Rid m1 r1 1 D (Maps.has D) (Maps.size D) ∧ Below W.heap.size W w0) := ⟨hrg0, B0⟩
  clear hown c0 hg0 hs0 hrg0 B0 hr1e
  go_loopw [7] (fun vl wr => ∃ (la : Option Addr) (ln lc : Nat), vl = .slice la ln lc ∧ Hid (∃ left cnt, wr.ranges Try.prog 66 Rid m1 r1 1 D left cnt ∧ Below W.heap.size W wr ∧ r1 < wr.heap.size ∧ ((cnt = 1 ∧ la = none ∧ ln = 0 ∧ lc = 0) ∨ (cnt = 0 ∧ RowAt (fun k : Int => .int .i64 k) wr (.slice la ln lc) L)))) (fun _ wr => wr.rangeLeft m1 r1)
  case atStart => exact ⟨none, 0, 0, rfl, _, _, H0.out.1, H0.out.2, H0.out.1.lt, .inl ⟨hDs, rfl, rfl, rfl⟩⟩
  case round =>
    clear H0
    obtain ⟨la, ln, lc, rfl, HL⟩ := hrel
    obtain ⟨left, cnt, hrg, hB, hlr, hst⟩ := HL.out
    go_wp2_with (first
      | (at_next; refine wpList_next_ranges (α := Value) (β := Value) _ rfl _ rfl 66 keyed66 Rid (fun v : Value => v) (fun v : Value => v) (fun key kl hk => ⟨key, rfl⟩) (fun v _ _ => ⟨v, rfl⟩) m1 r1 1 _ _ _ rfl hrg ?_ ?_)
      | go_in)
    · intro hc0 hl0
      have hrow : RowAt (fun k : Int => .int .i64 k) wr (.slice la ln lc) L := by
        rcases hst with ⟨e, _⟩ | ⟨_, h⟩
        · omega
        · exact h
      have HR : Hid (RowAt (fun k : Int => .int .i64 k) wr (.slice la ln lc) L ∧ Below W.heap.size W wr) := ⟨hrow, hB⟩
      have hln : ln ≤ 1 := by
        obtain ⟨_, _, e, _⟩ := hrow
        injection e with e1 e2 e3
        rw [e2, ← HLs.out]
        cases fb <;> simp
      have hsort := sort_small la lc ln hln wr
      clear hrg hB hst hrow hl0 hc0 hlr HL
      go_wp2_with (first | (go_at_call 62; refine hsort.mono ?_; rintro e w5 ⟨rfl, rfl⟩))
      go_ret
      exact ⟨_, rfl, HR.out⟩
    · intro x cc kl yd yp w2 cnt2 hkx hlk hv hat hrg2 hlt hg2 hs2 hen
      obtain ⟨rfl, rfl⟩ := one_entry HRel.out hkx hv hat
      obtain ⟨rfl, rfl, rfl, rfl⟩ : cnt = 1 ∧ la = none ∧ ln = 0 ∧ lc = 0 := by
        rcases hst with h | ⟨e, _⟩
        · exact h
        · omega
      have B2 : Below W.heap.size W w2 := hB.trans (below_of_grown hg2 hB.size (fun r e => by cases e; exact hr1.out))
      obtain ⟨hI2, hm2, hca2⟩ := HA.out w2 B2
      have hc43 := asks43 [a, b, c, d] m _ va ba w2 (FtAt.of_group hI2.gb) hm2 hca2
      rw [HFB.out] at hc43
      have hs4 := slice4 g
      have hcnt : cnt2 = 0 := by omega
      subst hcnt
      have HW2 : Hid (w2.ranges Try.prog 66 Rid m1 r1 1 D (fun z => left z && !z.sameKey kl) 0 ∧ Below W.heap.size W w2 ∧ r1 < w2.heap.size) := ⟨hrg2, B2, hrg2.lt⟩
      have HMe : Hid (wr.rangeLeft m1 r1 = 1) := hrg.left_eq
      clear hrg hB hst hlr HL hkx hlk hv hat hrg2 hlt hg2 hs2 B2 hI2 hm2 hca2
      cases fb
      · obtain rfl : [] = L := by simpa using HLs.out
        go_wp2_with fail
        refine hc43.mono ?_
        rintro e w3 ⟨rfl, b3⟩
        have hrg3 := HW2.out.1.kept (grown_of_below b3 none) (by simp) (by simp)
        have HW3 : Hid (w3.ranges Try.prog 66 Rid m1 r1 1 D (fun z => left z && !z.sameKey kl) 0 ∧ Below W.heap.size W w3 ∧ r1 < w3.heap.size) := ⟨hrg3, HW2.out.2.1.trans (b3.mono HW2.out.2.1.size), hrg3.lt⟩
        clear hrg3 b3 hen hc43
        go_wp2
        go_roundw
        case rel => exact ⟨none, 0, 0, rfl, _, 0, HW3.out.1, HW3.out.2.1, HW3.out.2.2, .inr ⟨rfl, ⟨none, 0, rfl, Nat.le_refl _, by omega, fun h => absurd h (by simp)⟩⟩⟩
        case measure => rw [HW3.out.1.left_eq, HMe.out]; omega
      · obtain rfl : [id] = L := by simpa using HLs.out
        go_wp2_with fail
        refine hc43.mono ?_
        rintro e w3 ⟨rfl, b3⟩
        have hrg3 := HW2.out.1.kept (grown_of_below b3 none) (by simp) (by simp)
        have HW3 : Hid (w3.ranges Try.prog 66 Rid m1 r1 1 D (fun z => left z && !z.sameKey kl) 0 ∧ Below W.heap.size W w3 ∧ r1 < w3.heap.size) := ⟨hrg3, HW2.out.2.1.trans (b3.mono HW2.out.2.1.size), hrg3.lt⟩
        obtain ⟨hI3, _, _⟩ := HA.out w3 HW3.out.2.1
        obtain ⟨D3, hown3, hDs3, hRel3⟩ := hI3.nu
        have d0 : w3.cell? ⟨g, 12, none⟩ = some (.map (some m3)) := cell_store hI3.gb rfl
        have HRel3 : Hid (∀ key kl, keyOf Try.prog 3 key = some kl → (∀ v, upd (fun _ => none) (.int .i64 id) (.agg #[]) key = some v → Maps.has D3 kl = true ∧ ∀ z, D3.atKey kl z = .held v) ∧ (upd (fun _ => none) (.int .i64 id) (.agg #[]) key = none → Maps.has D3 kl = false)) := hRel3
        clear hrg3 b3 hen hc43 hRel3 hI3 HW2
        go_wp2_with (first | (at_range; refine wpList_range_own _ rfl _ 80 rfl 3 79 keyed3 Try.underlying80 Rid m3 1 D3 rfl hown3 ?_; intro w4 hrg4 hg4 hs4') | go_in)
        go_frame
        have hrg14 := HW3.out.1.kept hg4 (by simp) (by simp)
        have hB3 := HW3.out.2.1
        have B4 : Below W.heap.size W w4 := hB3.trans (below_of_grown hg4 hB3.size (fun r e => by cases e))
        have hr2 : Hid (W.heap.size ≤ w3.heap.size) := hB3.size
        obtain ⟨r2, hr2e⟩ : ∃ n, w3.heap.size = n := ⟨_, rfl⟩
        have hne : r1 ≠ r2 := by have := HW3.out.2.2; omega
        have hne3 : m1 ≠ r2 := by have := HW3.out.1.owns; intro e; obtain ⟨es, clock, hb, _⟩ := this; have := (Array.getElem?_eq_some_iff.1 hb).1; omega
        rw [hr2e] at hrg4 hr2 ⊢
        have H4 : Hid (w4.ranges Try.prog 3 Rid m3 r2 1 D3 (Maps.has D3) (Maps.size D3) ∧ w4.ranges Try.prog 66 Rid m1 r1 1 D (fun z => left z && !z.sameKey kl) 0 ∧ Below W.heap.size W w4) := ⟨hrg4, hrg14, B4⟩
        have HNE : Hid (r1 ≠ r2 ∧ m1 ≠ r2) := ⟨hne, hne3⟩
        clear hown3 d0 hg4 hs4' hrg4 hrg14 B4 hB3 hr2e hne hne3 HW3
        go_loopw [7] (fun vl wr => ∃ (la : Option Addr) (ln lc : Nat), vl = .slice la ln lc ∧ Hid (∃ left3 cnt3, wr.ranges Try.prog 3 Rid m3 r2 1 D3 left3 cnt3 ∧ wr.ranges Try.prog 66 Rid m1 r1 1 D (fun z => left z && !z.sameKey kl) 0 ∧ Below W.heap.size W wr ∧ ((cnt3 = 1 ∧ la = none ∧ ln = 0 ∧ lc = 0) ∨ (cnt3 = 0 ∧ RowAt (fun k : Int => .int .i64 k) wr (.slice la ln lc) [id])))) (fun _ wr => wr.rangeLeft m3 r2)
        case atStart => exact ⟨none, 0, 0, rfl, _, _, H4.out.1, H4.out.2.1, H4.out.2.2, .inl ⟨hDs3, rfl, rfl, rfl⟩⟩
        case round =>
          clear H4
          obtain ⟨la, ln, lc, rfl, HL⟩ := hrel
          obtain ⟨left3, cnt3, hrg, hrgo, hB, hst⟩ := HL.out
          go_wp2_with (first
            | (at_next; refine wpList_next_ranges (α := Value) (β := Value) _ rfl _ rfl 3 keyed3 Rid (fun v : Value => v) (fun v : Value => v) (fun key kl hk => ⟨key, rfl⟩) (fun v _ _ => ⟨v, rfl⟩) m3 r2 1 _ _ _ rfl hrg ?_ ?_)
            | go_in)
          · intro hc0 hl0
            have hrow : RowAt (fun k : Int => .int .i64 k) wr (.slice la ln lc) [id] := by
              rcases hst with ⟨e, _⟩ | ⟨_, h⟩
              · omega
              · exact h
            have HR : Hid (RowAt (fun k : Int => .int .i64 k) wr (.slice la ln lc) [id] ∧ Below W.heap.size W wr ∧ wr.ranges Try.prog 66 Rid m1 r1 1 D (fun z => left z && !z.sameKey kl) 0) := ⟨hrow, hB, hrgo⟩
            clear hrg hrgo hB hst hrow hl0 hc0 HL
            go_wp2
            go_roundw
            case rel => exact ⟨la, ln, lc, rfl, _, 0, HR.out.2.2, HR.out.2.1, HR.out.2.2.lt, .inr ⟨rfl, HR.out.1⟩⟩
            case measure => rw [HR.out.2.2.left_eq, HMe.out]; omega
          · intro x cc kl3 yd yp w5 cnt5 hkx hlk hv hat hrg5 hlt hg5 hs5 hen5
            obtain ⟨rfl, rfl⟩ := one_entry HRel3.out hkx hv hat
            obtain ⟨rfl, rfl, rfl, rfl⟩ : cnt3 = 1 ∧ la = none ∧ ln = 0 ∧ lc = 0 := by
              rcases hst with h | ⟨e, _⟩
              · exact h
              · omega
            have B5 : Below W.heap.size W w5 := hB.trans (below_of_grown hg5 hB.size (fun r e => by cases e; exact hr2.out))
            have hrgo5 := hrgo.kept hg5 (by simp; exact HNE.out.2) (by simp; exact HNE.out.1)
            have hcnt : cnt5 = 0 := by omega
            subst hcnt
            have hM5 : Hid (wr.rangeLeft m3 r2 = 1) := hrg.left_eq
            have H5 : Hid (w5.ranges Try.prog 3 Rid m3 r2 1 D3 (fun z => left3 z && !z.sameKey kl3) 0 ∧ w5.ranges Try.prog 66 Rid m1 r1 1 D (fun z => left z && !z.sameKey kl) 0 ∧ Below W.heap.size W w5) := ⟨hrg5, hrgo5, B5⟩
            clear hrg hrgo hB hst HL hkx hlk hv hat hrg5 hlt hg5 hs5 B5 hrgo5
            go_wp2_with (first
              | (at_builtin; refine wpList_append_own_at _ rfl _ _ 50 rfl (w5.heap.size + 1) 3 i0 _ 1 8 Try.underlying50 hi0 hz0 hz1 hz2 rfl (by decide) (.slice none 0 0) 0 [] rfl (World.ownsRow_nil _ _ _ _) ⟨w5.heap.size, 0, none⟩ 1 1 [.int .i64 id] rfl rfl (fun j u hj => by rw [Addr.add_mid, Nat.zero_add, cell_of_row _ _ _ _ 3 (0, 0) (MapKept.heap_alloc w5 _).1]; simpa using hj) (by intro u hu; obtain rfl : u = .int .i64 id := (by simpa using hu); rfl) (by unfold maxLen; omega) (by omega) (by simp) ?_; intro v6 w6 hown6 hg6 hnil6 hat6))
            have b56 := below_box w5 (.cells #[.int .i64 id] 3)
            have hrg6 := (H5.out.1.alloc (.cells #[.int .i64 id] 3)).kept hg6 (by simp [Value.ownBlock]) (by simp [Value.ownBlock])
            have hrgo6 := (H5.out.2.1.alloc (.cells #[.int .i64 id] 3)).kept hg6 (by simp [Value.ownBlock]) (by simp [Value.ownBlock])
            have b5a : Below W.heap.size W (w5.alloc (.cells #[.int .i64 id] 3)) := H5.out.2.2.trans (b56.mono H5.out.2.2.size)
            have B6 : Below W.heap.size W w6 := b5a.trans (below_of_grown hg6 b5a.size (fun r e => by simp [Value.ownBlock] at e))
            have hrow6 : RowAt (fun k : Int => .int .i64 k) w6 v6 [id] := nums_of_own hown6
            obtain ⟨va6, vc6, rfl, _, _⟩ := hrow6.slice
            have H6 : Hid (w6.ranges Try.prog 3 Rid m3 r2 1 D3 (fun z => left3 z && !z.sameKey kl3) 0 ∧ w6.ranges Try.prog 66 Rid m1 r1 1 D (fun z => left z && !z.sameKey kl) 0 ∧ Below W.heap.size W w6 ∧ RowAt (fun k : Int => .int .i64 k) w6 (.slice va6 1 vc6) [id]) := ⟨hrg6, hrgo6, B6, hrow6⟩
            clear hown6 hg6 hnil6 hat6 b56 hrg6 hrgo6 b5a B6 hrow6 hen5
            go_roundw
            case rel => exact ⟨va6, 1, vc6, rfl, _, 0, H6.out.1, H6.out.2.1, H6.out.2.2.1, .inr ⟨rfl, H6.out.2.2.2⟩⟩
            case measure => rw [H6.out.1.left_eq, hM5.out]; omega

end Go.Proofs.Ytiklbkkimmgbcaa
