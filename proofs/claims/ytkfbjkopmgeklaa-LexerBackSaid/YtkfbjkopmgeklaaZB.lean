/-
  alive; LexerNames, LexerLexes: the walks.
-/
import Derived.Test.YtkfbjkopmgeklaaZA
import Derived.Test.YtkfbjkopmgeklaaC
namespace Go.Proofs.Ytkfbjkopmgeklaa
open Go.RowKit Go.Shelf

set_option maxRecDepth 100000 in
set_option maxHeartbeats 8000000 in
theorem alive_any (w : World) : Calls Try.prog 10 #[] w fun e w' => e = .returned (.bool true) ∧ Below w.heap.size w w' := by
  have H1 : ∀ W, Calls Try.prog 7 #[.string ⟨#[112, 40, 88, 41, 32, 33, 61, 32, 39, 97, 32, 98, 39]⟩] W fun e w' => ∃ a c b o, e = .returned (.tuple #[.slice a 6 c, .int .i64 0, .int .i64 0]) ∧ 6 ≤ c ∧ a = some ⟨b, o, none⟩ ∧ b < w'.heap.size ∧ w'.cell? ⟨b, o + 6, none⟩ = some (.int .i64 2) ∧ w'.cell? ⟨b, o + 14, none⟩ = some (.string ⟨#[33, 61]⟩) ∧ w'.cell? ⟨b, o + 17, none⟩ = some (.string ⟨#[97, 32, 98]⟩) ∧ w'.cell? ⟨b, o + 16, none⟩ = some (.int .i64 8) ∧ Below W.heap.size W w' := fun W => by
    refine (lex_ok ⟨#[112, 40, 88, 41, 32, 33, 61, 32, 39, 97, 32, 98, 39]⟩ W (by decide)).mono ?_
    rintro e w' ⟨v, rfl, hk, hb⟩
    have e1 : lexL 0 (⟨#[112, 40, 88, 41, 32, 33, 61, 32, 39, 97, 32, 98, 39]⟩ : ByteArray).data.toList = ([⟨1, 0, [112]⟩, ⟨4, 1, [40]⟩, ⟨2, 2, [88]⟩, ⟨4, 3, [41]⟩, ⟨4, 5, [33, 61]⟩, ⟨1, 8, [97, 32, 98]⟩], 0, 0) := ex1
    rw [e1] at hk ⊢
    simp only [if_true] at hk
    obtain ⟨a, c, rfl, h1, h2⟩ := hk.slice
    obtain ⟨b, o, rfl, hlt, c0, _, _⟩ := hk.nth (i := 2) (by decide)
    obtain ⟨b', o', e', _, _, _, c1⟩ := hk.nth (i := 4) (by decide)
    cases e'
    obtain ⟨b', o', e', _, _, c2, c3⟩ := hk.nth (i := 5) (by decide)
    cases e'
    exact ⟨_, c, b, o, rfl, h1, rfl, hlt, c0, c1, c3, c2, hb⟩
  have H2 : ∀ W, Calls Try.prog 7 #[.string ⟨#[112, 40, 88, 41, 32, 33, 61, 32, 39, 65, 39]⟩] W fun e w' => ∃ v, e = .returned (.tuple #[v, .int .i64 8, .int .i64 20]) ∧ (∃ a c, v = .slice a 0 c) ∧ Below W.heap.size W w' := fun W => by
    refine (lex_ok ⟨#[112, 40, 88, 41, 32, 33, 61, 32, 39, 65, 39]⟩ W (by decide)).mono ?_
    rintro e w' ⟨v, rfl, hk, hb⟩
    have e1 : (lexL 0 (⟨#[112, 40, 88, 41, 32, 33, 61, 32, 39, 65, 39]⟩ : ByteArray).data.toList).2 = (8, 20) := ex2
    rw [e1] at hk ⊢
    rw [if_neg (by decide)] at hk
    obtain ⟨a, c, rfl, _⟩ := hk.slice
    exact ⟨_, rfl, ⟨a, c, rfl⟩, hb⟩
  have H3 : ∀ W, Calls Try.prog 17 #[.string ⟨#[97, 32, 98]⟩] W fun e w' => e = .returned (.string ⟨#[39, 97, 32, 98, 39]⟩) ∧ Below W.heap.size W w' := fun W => by
    have := show_any ⟨#[97, 32, 98]⟩ W (by decide)
    rw [show (⟨#[97, 32, 98]⟩ : ByteArray).data.toList = [97, 32, 98] from rfl, ex3] at this
    exact this
  have H4 : ∀ W, Calls Try.prog 17 #[.string ⟨#[97, 98]⟩] W fun e w' => e = .returned (.string ⟨#[97, 98]⟩) ∧ Below W.heap.size W w' := fun W => by
    have := show_any ⟨#[97, 98]⟩ W (by decide)
    rw [show (⟨#[97, 98]⟩ : ByteArray).data.toList = [97, 98] from rfl, ex4] at this
    exact this
  go_enter Try.func10, Try.ntmps10
  go_wp2_with fail
  refine (H1 _).mono ?_
  rintro e W1 ⟨a, c, b, o, rfl, hc, rfl, hlt, c0, c1, c2, c3, b1⟩
  go_wp2_with fail
  refine (H2 _).mono ?_
  rintro e W2 ⟨v, rfl, ⟨va, vc, rfl⟩, b2⟩
  have d0 := kc b2 hlt c0
  have d1 := kc b2 hlt c1
  have d2 := kc b2 hlt c2
  have d3 := kc b2 hlt c3
  have HB2 : Hid (Below w.heap.size w W2) := b1.trans (b2.mono b1.size)
  clear c0 c1 c2 c3 b1 b2 H1 H2
  go_wp2_with fail
  refine (H3 _).mono ?_
  rintro e W3 ⟨rfl, b3⟩
  have HB3 : Hid (Below w.heap.size w W3) := HB2.out.trans (b3.mono HB2.out.size)
  clear b3 H3
  go_wp2_with fail
  refine (H4 _).mono ?_
  rintro e W4 ⟨rfl, b4⟩
  have HB4 : Hid (Below w.heap.size w W4) := HB3.out.trans (b4.mono HB3.out.size)
  clear b4 H4
  go_wp2
  go_ret
  exact ⟨rfl, HB4.out⟩

set_option maxRecDepth 100000 in
set_option maxHeartbeats 8000000 in
theorem lawlexes_any (s : ByteArray) (w : World) (hs : s.size ≤ 1048576) : Calls Try.prog 3 #[.string s] w fun e w' => e = .returned (.bool true) ∧ Below w.heap.size w w' := by
  have H1 := fun W => lex_ok s W (by omega)
  have H2 := fun W => rlex_any s W (by omega)
  obtain ⟨q, hq⟩ : ∃ q, lexL 0 s.data.toList = q := ⟨_, rfl⟩
  rw [hq] at H1 H2
  obtain ⟨ts, p, x⟩ := q
  clear hq
  have n1 : ((p : Int) == (p : Int)) = true := by simp
  have n2 : (x == x) = true := by simp
  go_enter Try.func3, Try.ntmps3
  go_wp2_with fail
  refine (H1 _).mono ?_
  rintro e W1 ⟨v1, rfl, k1, b1⟩
  obtain ⟨a1, c1, rfl, _⟩ := k1.slice
  have K1 : Hid (KsAt W1 (.slice a1 (if x = 0 then ts else []).length c1) (if x = 0 then ts else []) ∧ Below w.heap.size w W1) := ⟨k1, b1⟩
  clear k1 b1 H1
  obtain ⟨L, hL⟩ : ∃ L, (if x = 0 then ts else []) = L := ⟨_, rfl⟩
  have H2' : ∀ W, Calls Try.prog 8 #[.string s] W fun e w' => ∃ v, e = .returned (.tuple #[v, .int .i64 (p : Nat), .int .i64 x]) ∧ KsAt w' v L ∧ Below W.heap.size W w' := fun W => by
    have := H2 W
    unfold LexP at this
    simp only [hL] at this
    exact this
  simp only [hL] at K1 ⊢
  clear hL H2
  go_wp2_with fail
  refine (H2' _).mono ?_
  rintro e W2 ⟨v2, rfl, k2, b2⟩
  obtain ⟨a2, c2, rfl, _⟩ := k2.slice
  have hsm := same_any L _ _ W2 (K1.out.1.keep b2 (Nat.le_refl _)) k2
  have B2 : Hid (Below w.heap.size w W2) := K1.out.2.trans (b2.mono K1.out.2.size)
  clear k2 b2 H2' K1
  go_wp2_with fail
  refine hsm.mono ?_
  rintro e W3 ⟨rfl, b3⟩
  have B3 : Hid (Below w.heap.size w W3) := B2.out.trans (b3.mono B2.out.size)
  clear b3 hsm
  go_wp2_with fail
  refine (alive_any _).mono ?_
  rintro e W4 ⟨rfl, b4⟩
  have B4 : Hid (Below w.heap.size w W4) := B3.out.trans (b4.mono B3.out.size)
  clear b4
  go_wp2
  go_ret
  exact ⟨rfl, B4.out⟩

set_option maxRecDepth 100000 in
set_option maxHeartbeats 8000000 in
theorem lawnames_any (s : ByteArray) (w : World) (hs : s.size ≤ 1048576) : Calls Try.prog 4 #[.string s] w fun e w' => e = .returned (.bool true) ∧ Below w.heap.size w w' := by
  have h11 := fun W => plain_any s W (by omega)
  have h12 := fun W => rplain_any s W (by omega)
  have h13 := fun W => isName_any s W (by omega)
  have h14 := fun W => risName_any s W (by omega)
  have h15 := fun W => isVar_any s W (by omega)
  have h16 := fun W => risVar_any s W (by omega)
  have h17 := fun W => show_any s W (by omega)
  have h18 := fun W => rshow_any s W (by omega)
  obtain ⟨z1, e1⟩ : ∃ z, plB s.data.toList = z := ⟨_, rfl⟩
  obtain ⟨z2, e2⟩ : ∃ z, nmB s.data.toList = z := ⟨_, rfl⟩
  obtain ⟨z3, e3⟩ : ∃ z, vrB s.data.toList = z := ⟨_, rfl⟩
  obtain ⟨T, e4⟩ : ∃ z, ofL (shL s.data.toList) = z := ⟨_, rfl⟩
  rw [e1] at h11 h12
  rw [e2] at h13 h14
  rw [e3] at h15 h16
  rw [e4] at h17 h18
  clear e1 e2 e3 e4
  have n1 : (z1 == z1) = true := by simp
  have n2 : (z2 == z2) = true := by simp
  have n3 : (z3 == z3) = true := by simp
  have n4 : (T.toList == T.toList) = true := by simp
  go_enter Try.func4, Try.ntmps4
  go_wp2_with (first
    | (go_at_call 11; refine (h11 _).mono ?_; rintro e wq ⟨rfl, rfl⟩)
    | (go_at_call 12; refine (h12 _).mono ?_; rintro e wq ⟨rfl, rfl⟩)
    | (go_at_call 13; refine (h13 _).mono ?_; rintro e wq ⟨rfl, rfl⟩)
    | (go_at_call 14; refine (h14 _).mono ?_; rintro e wq ⟨rfl, rfl⟩)
    | (go_at_call 15; refine (h15 _).mono ?_; rintro e wq ⟨rfl, rfl⟩)
    | (go_at_call 16; refine (h16 _).mono ?_; rintro e wq ⟨rfl, rfl⟩)
    | (go_at_call 17; refine (h17 _).mono ?_; rintro e W1 ⟨rfl, b1⟩)
    | (go_at_call 18; refine (h18 _).mono ?_; rintro e W2 ⟨rfl, rfl⟩)
    | (go_at_call 10; refine (alive_any _).mono ?_; rintro e W3 ⟨rfl, b3⟩))
  go_ret
  exact ⟨rfl, b1.trans (b3.mono b1.size)⟩

end Go.Proofs.Ytkfbjkopmgeklaa
