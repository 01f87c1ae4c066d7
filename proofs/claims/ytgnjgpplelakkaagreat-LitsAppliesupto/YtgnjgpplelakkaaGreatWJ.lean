/-
  LitsApplies' walk.
-/
import Derived.Test.YtgnjgpplelakkaaGreatWI
import Derived.Test.YtgnjgpplelakkaaGreatMA
import Derived.Test.YtgnjgpplelakkaaGreatNB
namespace Go.Proofs.YtgnjgpplelakkaaGreat
open Go.RowKit Go.Maps

/-- What is told, whatever the slice. -/
abbrev Tells (f : Nat) (args : Array Value) (E : Int) (D : List Lt) (w : World) : Prop := ∀ X, Below w.heap.size w X → Calls Tryz.prog f args X fun e X' => ∃ a n c, e = .returned (.tuple #[.slice a n c, .int .i64 E]) ∧ ClauseAt X' (.slice a n c) D ∧ Below X.heap.size X X'

theorem tells_of {f : Nat} {args : Array Value} {E : Int} {D : List Lt} {w : World} (h : ∀ X, Below w.heap.size w X → Calls Tryz.prog f args X (ApP E D X)) : Tells f args E (if E = 0 then D else []) w := fun X hX => (h X hX).mono fun e X' ⟨v', he, hc, hb⟩ => by
  obtain ⟨a, c, rfl⟩ := hc.slice
  exact ⟨a, _, c, he, hc, hb⟩

abbrev Truth (f : Nat) (args : Array Value) (w : World) : Prop := ∀ X, Below w.heap.size w X → Calls Tryz.prog f args X fun e X' => e = .returned (.bool true) ∧ Below X.heap.size X X'
abbrev EqC (D : List Lt) : Prop := ∀ X u u', ClauseAt X u D → ClauseAt X u' D → Calls Tryz.prog 11 #[u, u'] X fun e X' => e = .returned (.bool true) ∧ Below X.heap.size X X'

theorem eqC (D : List Lt) : EqC D := fun X u u' h h' => (rcequal_any D D u u' X h h').mono fun e X' ⟨he, hb⟩ => ⟨by rw [he, ceq_true.2 rfl], hb⟩

set_option maxRecDepth 100000 in
set_option maxHeartbeats 4000000 in
theorem applies_walk (s : List Bd) (nl : Nat) (by_ : Int) (sa : Option Addr) (sc : Nat) (a : Option Addr) (c : Nat) (w : World) (hbd : BindsAt w (.slice sa s.length sc) s) (E1 E2 K : Int) (D1 D2 : List Lt)
    (h5 : ∀ X, Below w.heap.size w X → Calls Tryz.prog 5 #[.slice a nl c] X fun e X' => e = .returned (.int .i64 K) ∧ Below X.heap.size X X')
    (h6 : Truth 6 #[] w) (h7 : Tells 7 #[.slice sa s.length sc, .slice a nl c] E1 D1 w) (h8 : Tells 8 #[.slice sa s.length sc, .slice a nl c] E1 D1 w)
    (h9 : Tells 9 #[.slice a nl c, .int .i64 by_] E2 D2 w) (h10 : Tells 10 #[.slice a nl c, .int .i64 by_] E2 D2 w) (he1 : EqC D1) (he2 : EqC D2) :
    Calls Tryz.prog 3 #[.slice sa s.length sc, .slice a nl c, .int .i64 by_] w fun e w' => e = .returned (.bool true) ∧ Below w.heap.size w w' := by
  have HBD : Hid (BindsAt w (.slice sa s.length sc) s) := hbd
  have hsl := hbd.len
  have q1 : (E1 == E1) = true := by simp
  have q2 : (E2 == E2) = true := by simp
  have H5 : Hid (∀ X, Below w.heap.size w X → Calls Tryz.prog 5 #[.slice a nl c] X fun e X' => e = .returned (.int .i64 K) ∧ Below X.heap.size X X') := h5
  have H6 : Hid (Truth 6 #[] w) := h6
  have H7 : Hid (Tells 7 #[.slice sa s.length sc, .slice a nl c] E1 D1 w) := h7
  have H8 : Hid (Tells 8 #[.slice sa s.length sc, .slice a nl c] E1 D1 w) := h8
  have H9 : Hid (Tells 9 #[.slice a nl c, .int .i64 by_] E2 D2 w) := h9
  have H10 : Hid (Tells 10 #[.slice a nl c, .int .i64 by_] E2 D2 w) := h10
  have HE1 : Hid (EqC D1) := he1
  have HE2 : Hid (EqC D2) := he2
  clear hbd h5 h6 h7 h8 h9 h10 he1 he2
  go_enter Tryz.func3, Tryz.ntmps3
  go_wp2
  go_loopw [7, 8] (fun vm vi wr => ∃ (i : Nat) (M : Int), vi = .int .i64 i ∧ vm = .int .i64 M ∧ i ≤ s.length ∧ Below w.heap.size w wr) (fun _ vi _ => s.length - (intOf vi).toNat)
  case atStart => exact ⟨0, 1, rfl, rfl, Nat.zero_le _, Below.refl _ _⟩
  case round =>
    obtain ⟨i, M, rfl, rfl, hi, hb⟩ := hrel
    by_cases hlt : i < s.length
    · obtain ⟨bb, o, sb, e1, hB⟩ := (HBD.out.keep hb).nth hlt
      cases e1
      have h4 := rsize_any s[i].2 sb wr hB.sub
      obtain ⟨x, hx⟩ : ∃ x, s[i] = x := ⟨_, rfl⟩
      rw [hx] at hB h4
      obtain ⟨xa, xc, hsx, _, _⟩ := hB.sub.slice
      subst hsx
      obtain ⟨m0, m1, m2, m3⟩ : wr.cell? ⟨bb, o + i * 4, none⟩ = some (.int .i64 x.1) ∧ wr.cell? ⟨bb, o + i * 4 + 1, none⟩ = some (.int .i64 x.2.v) ∧ wr.cell? ⟨bb, o + i * 4 + 2, none⟩ = some (.string x.2.fn) ∧ wr.cell? ⟨bb, o + i * 4 + 3, none⟩ = some (.slice xa x.2.args.length xc) := ⟨hB.c0, hB.c1, hB.c2, hB.c3⟩
      have HB : Hid (Below w.heap.size w wr) := hb
      clear hB hb hx
      go_wp2_with (go_at_call 4; refine h4.mono ?_; rintro e w' ⟨rfl, hb'⟩)
      all_goals go_roundw
      case rel => exact ⟨i + 1, _, by go_num, rfl, by omega, HB.out.trans (hb'.mono HB.out.size)⟩
      case measure => simp [intOf]; omega
    · have HB : Hid (Below w.heap.size w wr) := hb
      clear hb
      have hil : i = s.length := by omega
      subst hil
      by_cases g1 : 3000 < M
      · have h6 := H6.out wr HB.out
        go_wp2_with (go_at_call 6; refine h6.mono ?_; rintro e w' ⟨rfl, hb'⟩)
        go_ret
        exact ⟨rfl, HB.out.trans (hb'.mono HB.out.size)⟩
      · have h5 := H5.out wr HB.out
        go_wp2_with fail
        refine h5.mono ?_
        rintro e W1 ⟨rfl, hb1⟩
        have HB1 : Hid (Below w.heap.size w W1) := HB.out.trans (hb1.mono HB.out.size)
        clear h5 hb1
        by_cases g2 : 5000 < K
        · have h6 := H6.out W1 HB1.out
          go_wp2_with (go_at_call 6; refine h6.mono ?_; rintro e w' ⟨rfl, hb'⟩)
          go_ret
          exact ⟨rfl, HB1.out.trans (hb'.mono HB1.out.size)⟩
        · have h5 := H5.out W1 HB1.out
          go_wp2_with fail
          refine h5.mono ?_
          rintro e W2 ⟨rfl, hb2⟩
          have HB2 : Hid (Below w.heap.size w W2) := HB1.out.trans (hb2.mono HB1.out.size)
          have h6 := H6.out W2 HB2.out
          have h7 := H7.out W2 HB2.out
          clear h5 hb2
          go_wp2_with (first
            | (go_at_call 7; refine h7.mono ?_; rintro e W3 ⟨a3, n3, c3, rfl, hc3, hb3⟩; have HB3 : Hid (Below w.heap.size w W3) := HB2.out.trans (hb3.mono HB2.out.size); have HC3 : Hid (ClauseAt W3 (.slice a3 n3 c3) D1) := hc3; have h8 := H8.out W3 HB3.out; clear hc3 hb3 h7)
            | (go_at_call 6; refine h6.mono ?_; rintro e w' ⟨rfl, hb'⟩)
            | fail)
          · go_ret
            exact ⟨rfl, HB2.out.trans (hb'.mono HB2.out.size)⟩
          · clear h6
            refine h8.mono ?_
            rintro e W4 ⟨a4, n4, c4, rfl, hc4, hb4⟩
            have HB4 : Hid (Below w.heap.size w W4) := HB3.out.trans (hb4.mono HB3.out.size)
            have HC4 : Hid (ClauseAt W4 (.slice a3 n3 c3) D1 ∧ ClauseAt W4 (.slice a4 n4 c4) D1) := ⟨HC3.out.keep hb4, hc4⟩
            have h9 := H9.out W4 HB4.out
            clear hc4 hb4 h8
            go_wp2_with fail
            refine h9.mono ?_
            rintro e W5 ⟨a5, n5, c5, rfl, hc5, hb5⟩
            have HB5 : Hid (Below w.heap.size w W5) := HB4.out.trans (hb5.mono HB4.out.size)
            have HC5 : Hid (ClauseAt W5 (.slice a3 n3 c3) D1 ∧ ClauseAt W5 (.slice a4 n4 c4) D1 ∧ ClauseAt W5 (.slice a5 n5 c5) D2) := ⟨HC4.out.1.keep hb5, HC4.out.2.keep hb5, hc5⟩
            have h10 := H10.out W5 HB5.out
            clear hc5 hb5 h9
            go_wp2_with fail
            refine h10.mono ?_
            rintro e W6 ⟨a6, n6, c6, rfl, hc6, hb6⟩
            have HB6 : Hid (Below w.heap.size w W6) := HB5.out.trans (hb6.mono HB5.out.size)
            have HC6 : Hid (ClauseAt W6 (.slice a5 n5 c5) D2 ∧ ClauseAt W6 (.slice a6 n6 c6) D2) := ⟨HC5.out.2.2.keep hb6, hc6⟩
            have h11 := HE1.out W6 _ _ (HC5.out.1.keep hb6) (HC5.out.2.1.keep hb6)
            clear hc6 hb6 h10
            go_wp2_with fail
            refine h11.mono ?_
            rintro e W7 ⟨rfl, hb7⟩
            have HB7 : Hid (Below w.heap.size w W7) := HB6.out.trans (hb7.mono HB6.out.size)
            have h11' := HE2.out W7 _ _ (HC6.out.1.keep hb7) (HC6.out.2.keep hb7)
            clear hb7 h11
            go_wp2_with fail
            refine h11'.mono ?_
            rintro e W8 ⟨rfl, hb8⟩
            have HB8 : Hid (Below w.heap.size w W8) := HB7.out.trans (hb8.mono HB7.out.size)
            have h6 := H6.out W8 HB8.out
            clear hb8 h11'
            go_wp2_with fail
            refine h6.mono ?_
            rintro e W9 ⟨rfl, hb9⟩
            have HB9 : Hid (Below w.heap.size w W9) := HB8.out.trans (hb9.mono HB8.out.size)
            clear hb9 h6
            go_wp2
            go_ret
            exact ⟨rfl, HB9.out⟩

theorem lapplies_any (s : List Bd) (l : List Lt) (by_ : Int) (hby : -9223372036854775808 ≤ by_ ∧ by_ ≤ 9223372036854775807) (vs v : Value) (w : World) (hbd : BindsAt w vs s) (hc : ClauseAt w v l) (hbz : ∀ x ∈ s, x.2.size ≤ 1048576) (hsz : csize l ≤ 1048576) :
    Calls Tryz.prog 3 #[vs, v, .int .i64 by_] w fun e w' => e = .returned (.bool true) ∧ Below w.heap.size w w' := by
  have hlen : l.length ≤ 1048576 := by have := csize_len l; omega
  have hsize : ∀ x ∈ l, x.l.size ≤ 1048576 ∧ x.r.size ≤ 1048576 := fun x hx => by
    obtain ⟨i, hi, rfl⟩ := List.getElem_of_mem hx
    obtain ⟨h1, h2, h3, h4⟩ := csize_at l i hi
    exact ⟨by omega, by omega⟩
  have hshort : ∀ t ∈ sidesOf l, Short t := fun t ht => by
    obtain ⟨x, hx, hty⟩ := List.mem_flatMap.1 ht
    have : t = x.l ∨ t = x.r := by simpa using hty
    rcases this with rfl | rfl
    · exact (short_of _ (hsize x hx).1).1
    · exact (short_of _ (hsize x hx).2).1
  have h7 := tells_of (f := 7) (args := #[vs, v]) (w := w) fun X hX => app_any s l vs v X (hbd.keep hX) (hc.keep hX) hbz hsize
  have h8 := tells_of (f := 8) (args := #[vs, v]) (w := w) fun X hX => rcapply_any s l vs v X (hbd.keep hX) (hc.keep hX) hlen
  have h9 := tells_of (f := 9) (args := #[v, .int .i64 by_]) (w := w) fun X hX => shp_any l by_ v X (hc.keep hX) hsz hshort
  have h10 := tells_of (f := 10) (args := #[v, .int .i64 by_]) (w := w) fun X hX => shd_any l by_ hby v X (hc.keep hX) hlen
  have h5 : ∀ X, Below w.heap.size w X → Calls Tryz.prog 5 #[v] X fun e X' => e = .returned (.int .i64 (wrap64 (csize l))) ∧ Below X.heap.size X X' := fun X hX => rcsize_any l v X (hc.keep hX)
  obtain ⟨sa, sc, rfl⟩ := hbd.slice
  obtain ⟨a, c, rfl⟩ := hc.slice
  exact applies_walk s l.length by_ sa sc a c w hbd _ _ _ _ _ h5 (fun X _ => alive_any X) h7 h8 h9 h10 (eqC _) (eqC _)

end Go.Proofs.YtgnjgpplelakkaaGreat
