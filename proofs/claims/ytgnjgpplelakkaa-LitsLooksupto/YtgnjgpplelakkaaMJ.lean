/-
  LitsTwice's walk.
-/
import Derived.Test.YtgnjgpplelakkaaMI
import Derived.Test.YtgnjgpplelakkaaMA
import Derived.Test.YtgnjgpplelakkaaLW
import Derived.Test.YtgnjgpplelakkaaRB
namespace Go.Proofs.Ytgnjgpplelakkaa
open Go.RowKit Go.Maps

theorem normal_sl (l : List Lt) (v : Value) (w : World) (hc : ClauseAt w v l) (hs : csize l ≤ 1048576) :
    Calls Try.prog 26 #[v] w fun e W' => ∃ a c, e = .returned (.slice a (cnorm l).length c) ∧ ClauseAt W' (.slice a (cnorm l).length c) (cnorm l) ∧ Below w.heap.size w W' :=
  (normal_any l v w hc hs).mono fun e W' ⟨v', he, hcl, hb⟩ => by
    obtain ⟨a, c, rfl⟩ := hcl.slice
    exact ⟨a, c, he, hcl, hb⟩

theorem clean_sl (l : List Lt) (v : Value) (w : World) (hc : ClauseAt w v l) (hs : csize l ≤ 1048576) :
    Calls Try.prog 28 #[v] w fun e W' => ∃ a c, e = .returned (.slice a (cclean l).length c) ∧ ClauseAt W' (.slice a (cclean l).length c) (cclean l) ∧ Below w.heap.size w W' :=
  (clean_any l v w hc hs).mono fun e W' ⟨v', he, hcl, hb⟩ => by
    obtain ⟨a, c, rfl⟩ := hcl.slice
    exact ⟨a, c, he, hcl, hb⟩

theorem equal_yes (l : List Lt) (v u : Value) (w : World) (hl : ClauseAt w v l) (hm : ClauseAt w u l) :
    Calls Try.prog 15 #[v, u] w fun e w' => e = .returned (.bool true) ∧ Below w.heap.size w w' :=
  (cequal_any l l v u w hl hm).mono fun e w' ⟨he, hb⟩ => ⟨by rw [he]; exact ret_bool (ceq_true.2 rfl), hb⟩

theorem side_mem {l : List Lt} {t : T} (h : t ∈ sidesOf l) : ∃ x ∈ l, t = x.l ∨ t = x.r := by
  obtain ⟨x, hx, ht⟩ := List.mem_flatMap.1 h
  exact ⟨x, hx, by simpa using ht⟩

theorem size_in {l : List Lt} {x : Lt} (hx : x ∈ l) : x.l.size ≤ csize l ∧ x.r.size ≤ csize l := by
  obtain ⟨i, hi, rfl⟩ := List.getElem_of_mem hx
  obtain ⟨h1, h2, h3, h4⟩ := csize_at l i hi
  exact ⟨by omega, by omega⟩

set_option maxRecDepth 100000 in
set_option maxHeartbeats 4000000 in
theorem twice_ok (sh : List Lt) (l cn cc : List Lt) (a : Option Addr) (c : Nat) (by_ : Int) (w : World) (hc : ClauseAt w (.slice a l.length c) l) (hle : (cc.length : Int) ≤ (l.length : Int))
    (h9 : Calls Try.prog 9 #[.slice a l.length c] w fun e w' => e = .returned (.int .i64 0) ∧ Below w.heap.size w w')
    (H2 : Hid (∀ W u, ClauseAt W u cn → Calls Try.prog 26 #[u] W fun e W' => ∃ a c, e = .returned (.slice a cn.length c) ∧ ClauseAt W' (.slice a cn.length c) cn ∧ Below W.heap.size W W'))
    (H4 : Hid (∀ W u, ClauseAt W u cc → Calls Try.prog 28 #[u] W fun e W' => ∃ a c, e = .returned (.slice a cc.length c) ∧ ClauseAt W' (.slice a cc.length c) cc ∧ Below W.heap.size W W'))
    (H5 : Hid (∀ W, ClauseAt W (.slice a l.length c) l → Calls Try.prog 26 #[.slice a l.length c] W fun e W' => ∃ a c, e = .returned (.slice a cn.length c) ∧ ClauseAt W' (.slice a cn.length c) cn ∧ Below W.heap.size W W'))
    (H6 : Hid (∀ W, ClauseAt W (.slice a l.length c) l → Calls Try.prog 28 #[.slice a l.length c] W fun e W' => ∃ a c, e = .returned (.slice a cc.length c) ∧ ClauseAt W' (.slice a cc.length c) cc ∧ Below W.heap.size W W'))
    (H7 : Hid (∀ W u u', ClauseAt W u cn → ClauseAt W u' cn → Calls Try.prog 15 #[u, u'] W fun e w' => e = .returned (.bool true) ∧ Below W.heap.size W w'))
    (H8 : Hid (∀ W u u', ClauseAt W u cc → ClauseAt W u' cc → Calls Try.prog 15 #[u, u'] W fun e w' => e = .returned (.bool true) ∧ Below W.heap.size W w'))
    (H1 : Hid (∀ W, ClauseAt W (.slice a l.length c) l → Calls Try.prog 32 #[.slice a l.length c, .int .i64 by_] W fun e W' => ∃ a' c', e = .returned (.tuple #[.slice a' l.length c', .int .i64 0]) ∧ ClauseAt W' (.slice a' l.length c') sh ∧ Below W.heap.size W W'))
    (H3 : Hid (∀ W u, ClauseAt W u sh → Calls Try.prog 26 #[u] W fun e W' => ∃ a c, e = .returned (.slice a cn.length c) ∧ ClauseAt W' (.slice a cn.length c) cn ∧ Below W.heap.size W W')) :
    Calls Try.prog 6 #[.slice a l.length c, .int .i64 by_] w fun e w' => e = .returned (.bool true) ∧ Below w.heap.size w w' := by
  have HC : Hid (ClauseAt w (.slice a l.length c) l) := hc
  clear hc
  go_enter Try.func6, Try.ntmps6
  go_wp2_with fail
  refine h9.mono ?_
  rintro e W1 ⟨rfl, hb1⟩
  have HF1 : Hid (Below w.heap.size w W1 ∧ ClauseAt W1 (.slice a l.length c) l) := ⟨hb1, HC.out.keep hb1⟩
  have hN2' := H5.out W1 HF1.out.2
  clear hb1
  go_wp2_with fail
  refine hN2'.mono ?_
  rintro e W2 ⟨a2, c2, rfl, hk2, hb2⟩
  have HF2 : Hid (Below w.heap.size w W2 ∧ ClauseAt W2 (.slice a l.length c) l ∧ ClauseAt W2 (.slice a2 cn.length c2) cn) := ⟨HF1.out.1.trans (hb2.mono HF1.out.1.size), HF1.out.2.keep hb2, hk2⟩
  have hC3 := H6.out W2 HF2.out.2.1
  clear hk2 hb2
  go_wp2_with fail
  refine hC3.mono ?_
  rintro e W3 ⟨a3, c3, rfl, hk3, hb3⟩
  have HF3 : Hid (Below w.heap.size w W3 ∧ ClauseAt W3 (.slice a l.length c) l ∧ ClauseAt W3 (.slice a2 cn.length c2) cn ∧ ClauseAt W3 (.slice a3 cc.length c3) cc) := ⟨HF2.out.1.trans (hb3.mono HF2.out.1.size), HF2.out.2.1.keep hb3, HF2.out.2.2.keep hb3, hk3⟩
  have hS4 := H1.out W3 HF3.out.2.1
  clear hk3 hb3
  go_wp2_with fail
  refine hS4.mono ?_
  rintro e W4 ⟨a4, c4, rfl, hk4, hb4⟩
  have HF4 : Hid (Below w.heap.size w W4 ∧ ClauseAt W4 (.slice a2 cn.length c2) cn ∧ ClauseAt W4 (.slice a3 cc.length c3) cc) := ⟨HF3.out.1.trans (hb4.mono HF3.out.1.size), HF3.out.2.2.1.keep hb4, HF3.out.2.2.2.keep hb4⟩
  have hN5 := H2.out W4 _ HF4.out.2.1
  have HS4 : Hid (ClauseAt W4 (.slice a4 l.length c4) sh) := hk4
  clear hb4 hk4
  go_wp2_with fail
  refine hN5.mono ?_
  rintro e W5 ⟨a5, c5, rfl, hk5, hb5⟩
  have HF5 : Hid (Below w.heap.size w W5 ∧ ClauseAt W5 (.slice a2 cn.length c2) cn ∧ ClauseAt W5 (.slice a3 cc.length c3) cc) := ⟨HF4.out.1.trans (hb5.mono HF4.out.1.size), HF4.out.2.1.keep hb5, HF4.out.2.2.keep hb5⟩
  have hE6 := H7.out W5 _ _ hk5 HF5.out.2.1
  have HS5 : Hid (ClauseAt W5 (.slice a4 l.length c4) sh) := HS4.out.keep hb5
  clear hk5 hb5
  go_wp2_with fail
  refine hE6.mono ?_
  rintro e W6 ⟨rfl, hb6⟩
  have HF6 : Hid (Below w.heap.size w W6 ∧ ClauseAt W6 (.slice a2 cn.length c2) cn ∧ ClauseAt W6 (.slice a3 cc.length c3) cc) := ⟨HF5.out.1.trans (hb6.mono HF5.out.1.size), HF5.out.2.1.keep hb6, HF5.out.2.2.keep hb6⟩
  have hC7 := H4.out W6 _ HF6.out.2.2
  have HS6 : Hid (ClauseAt W6 (.slice a4 l.length c4) sh) := HS5.out.keep hb6
  clear hb6
  go_wp2_with fail
  refine hC7.mono ?_
  rintro e W7 ⟨a7, c7, rfl, hk7, hb7⟩
  have HF7 : Hid (Below w.heap.size w W7 ∧ ClauseAt W7 (.slice a2 cn.length c2) cn ∧ ClauseAt W7 (.slice a3 cc.length c3) cc) := ⟨HF6.out.1.trans (hb7.mono HF6.out.1.size), HF6.out.2.1.keep hb7, HF6.out.2.2.keep hb7⟩
  have hE8 := H8.out W7 _ _ hk7 HF7.out.2.2
  have HS7 : Hid (ClauseAt W7 (.slice a4 l.length c4) sh) := HS6.out.keep hb7
  clear hk7 hb7
  go_wp2_with fail
  refine hE8.mono ?_
  rintro e W8 ⟨rfl, hb8⟩
  have HF8 : Hid (Below w.heap.size w W8 ∧ ClauseAt W8 (.slice a2 cn.length c2) cn) := ⟨HF7.out.1.trans (hb8.mono HF7.out.1.size), HF7.out.2.1.keep hb8⟩
  have hN9 := H3.out W8 _ (HS7.out.keep hb8)
  clear hb8
  go_wp2_with fail
  refine hN9.mono ?_
  rintro e W9 ⟨a9, c9, rfl, hk9, hb9⟩
  have hE10 := H7.out W9 _ _ hk9 (HF8.out.2.keep hb9)
  have HB9 : Hid (Below w.heap.size w W9) := HF8.out.1.trans (hb9.mono HF8.out.1.size)
  clear hk9 hb9
  go_wp2_with fail
  refine hE10.mono ?_
  rintro e W10 ⟨rfl, hb10⟩
  have HB10 : Hid (Below w.heap.size w W10) := HB9.out.trans (hb10.mono HB9.out.size)
  clear hb10
  go_wp2_with fail
  refine (alive_any W10).mono ?_
  rintro e W11 ⟨rfl, hb11⟩
  go_wp2
  go_ret
  exact ⟨rfl, HB10.out.trans (hb11.mono HB10.out.size)⟩

set_option maxRecDepth 100000 in
set_option maxHeartbeats 4000000 in
theorem twice_no_any0 (l cn cc : List Lt) (a : Option Addr) (c : Nat) (by_ : Int) (w : World) (hc : ClauseAt w (.slice a l.length c) l) (hle : (cc.length : Int) ≤ (l.length : Int))
    (h9 : Calls Try.prog 9 #[.slice a l.length c] w fun e w' => e = .returned (.int .i64 0) ∧ Below w.heap.size w w')
    (H2 : Hid (∀ W u, ClauseAt W u cn → Calls Try.prog 26 #[u] W fun e W' => ∃ a c, e = .returned (.slice a cn.length c) ∧ ClauseAt W' (.slice a cn.length c) cn ∧ Below W.heap.size W W'))
    (H4 : Hid (∀ W u, ClauseAt W u cc → Calls Try.prog 28 #[u] W fun e W' => ∃ a c, e = .returned (.slice a cc.length c) ∧ ClauseAt W' (.slice a cc.length c) cc ∧ Below W.heap.size W W'))
    (H5 : Hid (∀ W, ClauseAt W (.slice a l.length c) l → Calls Try.prog 26 #[.slice a l.length c] W fun e W' => ∃ a c, e = .returned (.slice a cn.length c) ∧ ClauseAt W' (.slice a cn.length c) cn ∧ Below W.heap.size W W'))
    (H6 : Hid (∀ W, ClauseAt W (.slice a l.length c) l → Calls Try.prog 28 #[.slice a l.length c] W fun e W' => ∃ a c, e = .returned (.slice a cc.length c) ∧ ClauseAt W' (.slice a cc.length c) cc ∧ Below W.heap.size W W'))
    (H7 : Hid (∀ W u u', ClauseAt W u cn → ClauseAt W u' cn → Calls Try.prog 15 #[u, u'] W fun e w' => e = .returned (.bool true) ∧ Below W.heap.size W w'))
    (H8 : Hid (∀ W u u', ClauseAt W u cc → ClauseAt W u' cc → Calls Try.prog 15 #[u, u'] W fun e w' => e = .returned (.bool true) ∧ Below W.heap.size W w'))
    (H1 : Hid (∀ W, ClauseAt W (.slice a l.length c) l → Calls Try.prog 32 #[.slice a l.length c, .int .i64 by_] W fun e W' => ∃ E : Int, (E != 0) = true ∧ e = .returned (.tuple #[.slice none 0 0, .int .i64 E]) ∧ Below W.heap.size W W')) :
    Calls Try.prog 6 #[.slice a l.length c, .int .i64 by_] w fun e w' => e = .returned (.bool true) ∧ Below w.heap.size w w' := by
  have HC : Hid (ClauseAt w (.slice a l.length c) l) := hc
  clear hc
  go_enter Try.func6, Try.ntmps6
  go_wp2_with fail
  refine h9.mono ?_
  rintro e W1 ⟨rfl, hb1⟩
  have HF1 : Hid (Below w.heap.size w W1 ∧ ClauseAt W1 (.slice a l.length c) l) := ⟨hb1, HC.out.keep hb1⟩
  have hN2' := H5.out W1 HF1.out.2
  clear hb1
  go_wp2_with fail
  refine hN2'.mono ?_
  rintro e W2 ⟨a2, c2, rfl, hk2, hb2⟩
  have HF2 : Hid (Below w.heap.size w W2 ∧ ClauseAt W2 (.slice a l.length c) l ∧ ClauseAt W2 (.slice a2 cn.length c2) cn) := ⟨HF1.out.1.trans (hb2.mono HF1.out.1.size), HF1.out.2.keep hb2, hk2⟩
  have hC3 := H6.out W2 HF2.out.2.1
  clear hk2 hb2
  go_wp2_with fail
  refine hC3.mono ?_
  rintro e W3 ⟨a3, c3, rfl, hk3, hb3⟩
  have HF3 : Hid (Below w.heap.size w W3 ∧ ClauseAt W3 (.slice a l.length c) l ∧ ClauseAt W3 (.slice a2 cn.length c2) cn ∧ ClauseAt W3 (.slice a3 cc.length c3) cc) := ⟨HF2.out.1.trans (hb3.mono HF2.out.1.size), HF2.out.2.1.keep hb3, HF2.out.2.2.keep hb3, hk3⟩
  have hS4 := H1.out W3 HF3.out.2.1
  clear hk3 hb3
  go_wp2_with fail
  refine hS4.mono ?_
  rintro e W4 ⟨E, hE, rfl, hb4⟩
  have HF4 : Hid (Below w.heap.size w W4 ∧ ClauseAt W4 (.slice a2 cn.length c2) cn ∧ ClauseAt W4 (.slice a3 cc.length c3) cc) := ⟨HF3.out.1.trans (hb4.mono HF3.out.1.size), HF3.out.2.2.1.keep hb4, HF3.out.2.2.2.keep hb4⟩
  have hN5 := H2.out W4 _ HF4.out.2.1
  clear hb4
  go_wp2_with fail
  refine hN5.mono ?_
  rintro e W5 ⟨a5, c5, rfl, hk5, hb5⟩
  have HF5 : Hid (Below w.heap.size w W5 ∧ ClauseAt W5 (.slice a2 cn.length c2) cn ∧ ClauseAt W5 (.slice a3 cc.length c3) cc) := ⟨HF4.out.1.trans (hb5.mono HF4.out.1.size), HF4.out.2.1.keep hb5, HF4.out.2.2.keep hb5⟩
  have hE6 := H7.out W5 _ _ hk5 HF5.out.2.1
  clear hk5 hb5
  go_wp2_with fail
  refine hE6.mono ?_
  rintro e W6 ⟨rfl, hb6⟩
  have HF6 : Hid (Below w.heap.size w W6 ∧ ClauseAt W6 (.slice a2 cn.length c2) cn ∧ ClauseAt W6 (.slice a3 cc.length c3) cc) := ⟨HF5.out.1.trans (hb6.mono HF5.out.1.size), HF5.out.2.1.keep hb6, HF5.out.2.2.keep hb6⟩
  have hC7 := H4.out W6 _ HF6.out.2.2
  clear hb6
  go_wp2_with fail
  refine hC7.mono ?_
  rintro e W7 ⟨a7, c7, rfl, hk7, hb7⟩
  have HF7 : Hid (Below w.heap.size w W7 ∧ ClauseAt W7 (.slice a2 cn.length c2) cn ∧ ClauseAt W7 (.slice a3 cc.length c3) cc) := ⟨HF6.out.1.trans (hb7.mono HF6.out.1.size), HF6.out.2.1.keep hb7, HF6.out.2.2.keep hb7⟩
  have hE8 := H8.out W7 _ _ hk7 HF7.out.2.2
  clear hk7 hb7
  go_wp2_with fail
  refine hE8.mono ?_
  rintro e W8 ⟨rfl, hb8⟩
  have HF8 : Hid (Below w.heap.size w W8 ∧ ClauseAt W8 (.slice a2 cn.length c2) cn) := ⟨HF7.out.1.trans (hb8.mono HF7.out.1.size), HF7.out.2.1.keep hb8⟩
  clear hb8
  go_wp2_with fail
  refine (alive_any W8).mono ?_
  rintro e W11 ⟨rfl, hb11⟩
  go_wp2
  go_ret
  exact ⟨rfl, HF8.out.1.trans (hb11.mono HF8.out.1.size)⟩

end Go.Proofs.Ytgnjgpplelakkaa
