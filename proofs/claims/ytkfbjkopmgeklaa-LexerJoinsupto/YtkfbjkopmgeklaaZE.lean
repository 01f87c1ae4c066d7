/-
  LexerJoins: the walk.
-/
import Derived.Test.YtkfbjkopmgeklaaZD
namespace Go.Proofs.Ytkfbjkopmgeklaa
open Go.RowKit Go.Shelf

theorem joined_list (a b : ByteArray) : (a ++ (⟨#[32]⟩ : ByteArray) ++ b).data.toList = a.data.toList ++ 32 :: b.data.toList := by simp
theorem joined_size (a b : ByteArray) : (a ++ (⟨#[32]⟩ : ByteArray) ++ b).size = a.size + 1 + b.size := by
  rw [← size_len, joined_list]
  simp []
  omega

theorem lt_of_cell {W : World} {b o : Nat} {v : Value} (h : W.cell? ⟨b, o, none⟩ = some v) : b < W.heap.size := World.block_lt_of_cell? W _ h

set_option maxRecDepth 100000 in
set_option maxHeartbeats 16000000 in
theorem lawjoins_any (a b : ByteArray) (w : World) (hs : a.size + b.size ≤ 1048576) : Calls Try.prog 6 #[.string a, .string b] w fun e w' => e = .returned (.bool true) ∧ Below w.heap.size w w' := by
  have hsa : a.size ≤ 1048576 := by omega
  have hsb : b.size ≤ 1048576 := by omega
  have HSum : Hid (a.size + b.size ≤ 1048576) := hs
  go_enter Try.func6, Try.ntmps6
  go_wp2
  go_loopw [5] (fun vi wr => ∃ i : Nat, vi = .int .i64 i ∧ i ≤ a.size ∧ wr = w ∧ Hid (∀ j (hj : j < i) (h : j < a.size), a[j] ≠ 37 ∧ a[j] ≠ 39)) (fun vi _ => a.size - (intOf vi).toNat)
  case atStart => exact ⟨0, rfl, Nat.zero_le _, rfl, fun j hj => absurd hj (by omega)⟩
  case round =>
    obtain ⟨i, rfl, hi, rfl, HI⟩ := hrel
    by_cases hlt : i < a.size
    · by_cases h1 : a[i] = 37
      · have g1 : ((a[i].toNat : Int) == 37) = true := u8_eq (k := 37) rfl h1
        clear h1
        go_wp2_with (go_at_call 10; refine (alive_any _).mono ?_; rintro e W3 ⟨rfl, b3⟩)
        go_ret
        exact ⟨rfl, b3⟩
      · have g1 : ((a[i].toNat : Int) == 37) = false := u8_ne (k := 37) rfl h1
        by_cases h2 : a[i] = 39
        · have g2 : ((a[i].toNat : Int) == 39) = true := u8_eq (k := 39) rfl h2
          clear h1 h2
          go_wp2_with (go_at_call 10; refine (alive_any _).mono ?_; rintro e W3 ⟨rfl, b3⟩)
          go_ret
          exact ⟨rfl, b3⟩
        · have g2 : ((a[i].toNat : Int) == 39) = false := u8_ne (k := 39) rfl h2
          have HN : Hid (∀ j (hj : j < i + 1) (h : j < a.size), a[j] ≠ 37 ∧ a[j] ≠ 39) := fun j hj h => by
            by_cases e : j = i
            · subst e; exact ⟨h1, h2⟩
            · exact HI.out j (by omega) h
          clear h1 h2
          go_wp2
          go_roundw
          case rel => exact ⟨i + 1, by go_num, by omega, by simp, HN.out⟩
          case measure => simp [intOf]; omega
    · have HC : Hid (∀ c ∈ a.data.toList, c ≠ 37 ∧ c ≠ 39) := fun c hc => by
        obtain ⟨j, hj, e⟩ := List.getElem_of_mem hc
        rw [size_len] at hj
        rw [← e]
        exact HI.out j (by omega) hj
      have HJ : Hid (lexL 0 (a ++ (⟨#[32]⟩ : ByteArray) ++ b).data.toList = joinL (lexL 0 a.data.toList) (shiftL (a.size + 1) (lexL 0 b.data.toList))) := by
        show _ = _
        rw [joined_list, joins _ _ HC.out, size_len]
      have H1 := fun W => lex_ok a W (by omega)
      have H2 := fun W => lex_ok b W (by omega)
      have H3 := fun W => lex_ok (a ++ (⟨#[32]⟩ : ByteArray) ++ b) W (by rw [joined_size]; omega)
      rw [HJ.out] at H3
      obtain ⟨qa, hqa⟩ : ∃ q, lexL 0 a.data.toList = q := ⟨_, rfl⟩
      obtain ⟨qb, hqb⟩ : ∃ q, lexL 0 b.data.toList = q := ⟨_, rfl⟩
      rw [hqa] at H1 H3
      rw [hqb] at H2 H3
      have HAt : Hid ((∀ t ∈ qb.1, t.a ≤ b.size) ∧ qb.2.1 ≤ b.size) := by have := lex_at _ b.data.toList 0 (Nat.le_refl _); rw [hqb, size_len, Nat.zero_add] at this; exact this
      have HLa : Hid (qa.1.length ≤ a.size) := by have := lexL_len _ a.data.toList 0 (Nat.le_refl _); rw [hqa, size_len] at this; exact this
      have HLb : Hid (qb.1.length ≤ b.size) := by have := lexL_len _ b.data.toList 0 (Nat.le_refl _); rw [hqb, size_len] at this; exact this
      clear hqa hqb HJ HC HI
      obtain ⟨xs, xp, xe⟩ := qa
      obtain ⟨ys, yp, ye⟩ := qb
      obtain ⟨q, hq⟩ : ∃ q, joinL (xs, xp, xe) (shiftL (a.size + 1) (ys, yp, ye)) = q := ⟨_, rfl⟩
      rw [hq] at H3
      obtain ⟨zs, zp, ze⟩ := q
      have HQ : Hid (joinL (xs, xp, xe) (shiftL (a.size + 1) (ys, yp, ye)) = (zs, zp, ze)) := hq
      clear hq
      obtain ⟨X, hX⟩ : ∃ L, (if xe = 0 then xs else []) = L := ⟨_, rfl⟩
      obtain ⟨Y, hY⟩ : ∃ L, (if ye = 0 then ys else []) = L := ⟨_, rfl⟩
      obtain ⟨Z, hZ⟩ : ∃ L, (if ze = 0 then zs else []) = L := ⟨_, rfl⟩
      have H1' : ∀ W, Calls Try.prog 7 #[.string a] W fun e w' => ∃ v, e = .returned (.tuple #[v, .int .i64 (xp : Nat), .int .i64 xe]) ∧ KsAt w' v X ∧ Below W.heap.size W w' := fun W => by have := H1 W; unfold LexP at this; simp only [hX] at this; exact this
      have H2' : ∀ W, Calls Try.prog 7 #[.string b] W fun e w' => ∃ v, e = .returned (.tuple #[v, .int .i64 (yp : Nat), .int .i64 ye]) ∧ KsAt w' v Y ∧ Below W.heap.size W w' := fun W => by have := H2 W; unfold LexP at this; simp only [hY] at this; exact this
      have H3' : ∀ W, Calls Try.prog 7 #[.string (a ++ (⟨#[32]⟩ : ByteArray) ++ b)] W fun e w' => ∃ v, e = .returned (.tuple #[v, .int .i64 (zp : Nat), .int .i64 ze]) ∧ KsAt w' v Z ∧ Below W.heap.size W w' := fun W => by have := H3 W; unfold LexP at this; simp only [hZ] at this; exact this
      have HX : Hid ((if xe = 0 then xs else []) = X) := hX
      have HY : Hid ((if ye = 0 then ys else []) = Y) := hY
      have HZ : Hid ((if ze = 0 then zs else []) = Z) := hZ
      clear H1 H2 H3 hX hY hZ
      go_wp2_with fail
      refine (H1' _).mono ?_
      rintro e W1 ⟨v1, rfl, k1, b1⟩
      obtain ⟨a1, c1, rfl, l1, m1⟩ := k1.slice
      have K1 : Hid (KsAt W1 (.slice a1 X.length c1) X ∧ Below wr.heap.size wr W1) := ⟨k1, b1⟩
      clear k1 b1 H1'
      go_wp2_with fail
      refine (H2' _).mono ?_
      rintro e W2 ⟨v2, rfl, k2, b2⟩
      obtain ⟨a2, c2, rfl, l2, m2⟩ := k2.slice
      have K2 : Hid (KsAt W2 (.slice a1 X.length c1) X ∧ KsAt W2 (.slice a2 Y.length c2) Y ∧ Below wr.heap.size wr W2) := ⟨K1.out.1.keep b2 (Nat.le_refl _), k2, K1.out.2.trans (b2.mono K1.out.2.size)⟩
      clear k2 b2 H2' K1
      go_wp2_with fail
      refine (H3' _).mono ?_
      rintro e W3 ⟨v3, rfl, k3, b3⟩
      obtain ⟨a3, c3, rfl, l3, m3⟩ := k3.slice
      have K3 : Hid (KsAt W3 (.slice a1 X.length c1) X ∧ KsAt W3 (.slice a2 Y.length c2) Y ∧ KsAt W3 (.slice a3 Z.length c3) Z ∧ Below wr.heap.size wr W3) := ⟨K2.out.1.keep b3 (Nat.le_refl _), K2.out.2.1.keep b3 (Nat.le_refl _), k3, K2.out.2.2.trans (b3.mono K2.out.2.2.size)⟩
      clear k3 b3 H3' K2
      by_cases hx : xe = 0
      · by_cases hy : ye = 0
        · have hq := HQ.out
          rw [hx, hy] at hq
          simp only [joinL, shiftL, if_true] at hq
          have hz : ze = 0 := (congrArg (fun z => z.2.2) hq).symm
          have hzs : zs = xs ++ ys.map (fun t => ⟨t.k, t.a + (a.size + 1), t.t⟩) := (congrArg (fun z => z.1) hq).symm
          have eX : X = xs := by rw [← HX.out, if_pos hx]
          have eY : Y = ys := by rw [← HY.out, if_pos hy]
          have HZL : Hid (Z = X ++ Y.map (fun t => ⟨t.k, t.a + (a.size + 1), t.t⟩)) := by show _ = _; rw [← HZ.out, if_pos hz, hzs, eX, eY]
          have hlen : Z.length = X.length + Y.length := by rw [HZL.out]; simp
          have hYl : Y.length ≤ 1048576 := by rw [eY]; have := HLb.out; omega
          have hXl : X.length ≤ 1048576 := by rw [eX]; have := HLa.out; omega
          have HYa : Hid (∀ t ∈ Y, t.a ≤ b.size) := by rw [eY]; exact HAt.out.1
          subst hx hy hz
          clear hq hzs eX eY HX HY HZ HQ
          have hlenI : ((Z.length : Int) != (X.length : Int) + (Y.length : Int)) = false := by rw [bne_eq_false_iff_eq]; omega
          have HLen : Hid (Z.length = X.length + Y.length) := hlen
          clear hlen
          go_wp2
          go_loopw [15] (fun vi wq => ∃ i : Nat, vi = .int .i64 i ∧ i ≤ X.length ∧ Hid (Below W3.heap.size W3 wq)) (fun vi _ => X.length - (intOf vi).toNat)
          case atStart => exact ⟨0, rfl, Nat.zero_le _, Below.refl _ _⟩
          case round =>
            obtain ⟨i, rfl, hi2, HB⟩ := hrel
            by_cases hlt2 : i < X.length
            · have hZi : i < Z.length := by rw [HLen.out]; omega
              obtain ⟨b3, o3, rfl, hb3, z0, z1, z2⟩ := K3.out.2.2.1.nth hZi
              obtain ⟨b1, o1, rfl, hb1, x0, x1, x2⟩ := K3.out.1.nth hlt2
              have eZ : Z[i] = X[i] := by simp only [HZL.out]; rw [List.getElem_append_left hlt2]
              rw [eZ] at z0 z1 z2
              obtain ⟨t, ht⟩ : ∃ t, X[i] = t := ⟨_, rfl⟩
              rw [ht] at x0 x1 x2 z0 z1 z2
              obtain ⟨T, hT⟩ : ∃ T, ofL t.t = T := ⟨_, rfl⟩
              rw [hT] at x2 z2
              replace x0 := kc HB.out hb1 x0
              replace x1 := kc HB.out hb1 x1
              replace x2 := kc HB.out hb1 x2
              replace z0 := kc HB.out hb3 z0
              replace z1 := kc HB.out hb3 z1
              replace z2 := kc HB.out hb3 z2
              have iz1 : (i : Int) < (Z.length : Int) := by omega
              have ix1 : (i : Int) < (X.length : Int) := by omega
              have i01 : (0 : Int) ≤ (i : Int) := by omega
              clear ht hT eZ hb1 hb3
              go_wp2
              go_quiet (fail)
              have HB2 : Hid (Below W3.heap.size W3 (wr.drewN nq)) := HB.out.trans ((below_drewN wr nq).mono HB.out.size)
              go_wp2
              go_roundw
              case rel => exact ⟨i + 1, by go_num, by omega, HB2.out⟩
              case measure => simp [intOf]; omega
            · go_wp2
              go_loopw [16] (fun vi wq => ∃ i : Nat, vi = .int .i64 i ∧ i ≤ Y.length ∧ Hid (Below W3.heap.size W3 wq)) (fun vi _ => Y.length - (intOf vi).toNat)
              case atStart => exact ⟨0, rfl, Nat.zero_le _, HB.out⟩
              case round =>
                obtain ⟨k, rfl, hk2, HC⟩ := hrel
                clear HB
                by_cases hlt3 : k < Y.length
                · have hZi : X.length + k < Z.length := by rw [HLen.out]; omega
                  obtain ⟨b3, o3, rfl, hb3, z0, z1, z2⟩ := K3.out.2.2.1.nth hZi
                  obtain ⟨b2, o2, rfl, hb2, y0, y1, y2⟩ := K3.out.2.1.nth hlt3
                  have eZ : Z[X.length + k] = ⟨Y[k].k, Y[k].a + (a.size + 1), Y[k].t⟩ := by
                    simp only [HZL.out]
                    rw [List.getElem_append_right (by omega)]
                    simp
                  have hya := HYa.out Y[k] (List.getElem_mem hlt3)
                  rw [eZ] at z0 z1 z2
                  obtain ⟨t, ht⟩ : ∃ t, Y[k] = t := ⟨_, rfl⟩
                  rw [ht] at y0 y1 y2 z0 z1 z2 hya
                  obtain ⟨T, hT⟩ : ∃ T, ofL t.t = T := ⟨_, rfl⟩
                  obtain ⟨A, hA⟩ : ∃ A, t.a + (a.size + 1) = A := ⟨_, rfl⟩
                  simp only [hT, hA] at y2 z0 z1 z2
                  have nA : ((A : Int) != (t.a : Int) + (a.size : Int) + 1) = false := by rw [bne_eq_false_iff_eq]; omega
                  replace y0 := kc HC.out hb2 y0
                  replace y1 := kc HC.out hb2 y1
                  replace y2 := kc HC.out hb2 y2
                  replace z0 := kc HC.out hb3 z0
                  replace z1 := kc HC.out hb3 z1
                  replace z2 := kc HC.out hb3 z2
                  have hby : Below wr.heap.size wr (wr.alloc (.cells #[.int .i64 t.k, .int .i64 (A : Nat), .string T] 34)) := below_box _ _
                  have q0 := kc hby (lt_of_cell y0) y0
                  have q1 := kc hby (lt_of_cell y1) y1
                  have q2 := kc hby (lt_of_cell y2) y2
                  have HD : Hid (Below W3.heap.size W3 (wr.alloc (.cells #[.int .i64 t.k, .int .i64 (A : Nat), .string T] 34))) := HC.out.trans (hby.mono HC.out.size)
                  have iz1 : (X.length : Int) + (k : Int) < (Z.length : Int) := by omega
                  have iy1 : (k : Int) < (Y.length : Int) := by omega
                  have i01 : (0 : Int) ≤ (k : Int) := by omega
                  clear ht hT hA eZ hb2 hb3 hby
                  go_wp2
                  go_quiet (fail)
                  have HE : Hid (Below W3.heap.size W3 ((wr.alloc (.cells #[.int .i64 t.k, .int .i64 (A : Nat), .string T] 34)).drewN nq)) := HD.out.trans ((below_drewN _ nq).mono HD.out.size)
                  go_wp2
                  go_roundw
                  case rel => exact ⟨k + 1, by go_num, by omega, HE.out⟩
                  case measure => simp [intOf]; omega
                · go_wp2_with (go_at_call 10; refine (alive_any _).mono ?_; rintro e W5 ⟨rfl, b5⟩)
                  go_ret
                  have hB := K3.out.2.2.2.trans (HC.out.mono K3.out.2.2.2.size)
                  exact ⟨rfl, hB.trans (b5.mono hB.size)⟩
        · have hq := HQ.out
          rw [hx] at hq
          simp only [joinL, shiftL, if_true, if_neg hy] at hq
          have hz : ze = ye := (congrArg (fun z => z.2.2) hq).symm
          have hzp : zp = yp + (a.size + 1) := (congrArg (fun z => z.2.1) hq).symm
          have hyp := HAt.out.2
          have n1 : ((zp : Int) == (a.size : Int) + 1 + (yp : Int)) = true := by rw [beq_iff_eq]; omega
          have n2 : (ye != 0) = true := by simpa using hy
          have n3 : (ye == ye) = true := by simp
          subst hx
          subst hz
          clear hq hzp HX HY HZ HQ hy
          go_wp2_with (go_at_call 10; refine (alive_any _).mono ?_; rintro e W5 ⟨rfl, b5⟩)
          go_ret
          have hB := K3.out.2.2.2
          exact ⟨rfl, hB.trans (b5.mono hB.size)⟩
      · have hq := HQ.out
        simp only [joinL, if_neg hx] at hq
        have hz : ze = xe := (congrArg (fun z => z.2.2) hq).symm
        have n2 : (xe != 0) = true := by simpa using hx
        have n3 : (xe == xe) = true := by simp
        subst hz
        clear hq HX HY HZ HQ hx
        go_wp2_with (go_at_call 10; refine (alive_any _).mono ?_; rintro e W5 ⟨rfl, b5⟩)
        go_ret
        have hB := K3.out.2.2.2
        exact ⟨rfl, hB.trans (b5.mono hB.size)⟩

end Go.Proofs.Ytkfbjkopmgeklaa
