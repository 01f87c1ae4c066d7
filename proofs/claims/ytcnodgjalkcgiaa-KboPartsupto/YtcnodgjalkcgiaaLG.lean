/-
  KboParts: the law's walk.
-/
import Derived.Test.YtcnodgjalkcgiaaLF
namespace Go.Proofs.Ytcnodgjalkcgiaa
open Go.RowKit Go.Maps

theorem lift_to {B X : World} {f : Nat} {args : Array Value} {R : Ending → Prop} (hX : Below B.heap.size B X) (h : Calls Try.prog f args X fun e X' => R e ∧ Below X.heap.size X X') : Calls Try.prog f args X fun e X' => R e ∧ Below B.heap.size B X' :=
  h.mono fun _ _ ⟨a, b⟩ => ⟨a, hX.trans (b.mono hX.size)⟩

theorem bel_tr {A B C : World} (h1 : Below A.heap.size A B) (h2 : Below B.heap.size B C) : Below A.heap.size A C := h1.trans (h2.mono h1.size)

set_option maxRecDepth 100000 in
set_option maxHeartbeats 3000000 in
theorem lawparts_any (g : Sg) (t s : T) (p : List Int) (vn vw st ss pv : Value) (w : World) (hg : SgAt w g vn vw) (hat : ArgsAt w st t.args) (has : ArgsAt w ss s.args) (hp : RowAt (.int .i64) w pv p) (hz : t.size + s.size ≤ 1048576) :
    Calls Try.prog 7 #[gval vn vw, tval t st, tval s ss, pv] w fun e w' => e = .returned (.bool true) ∧ Below w.heap.size w w' := by
  obtain ⟨an, cn, rfl, _, _⟩ := hg.ns.slice
  obtain ⟨aw, cw, rfl, _, _⟩ := hg.ws.slice
  obtain ⟨a, ca, rfl, _, _⟩ := hat.slice
  obtain ⟨b, cb, rfl, _, _⟩ := has.slice
  obtain ⟨pa, pc, rfl, _, _⟩ := hp.slice
  have hzt : t.size ≤ 1048576 := by have := size_pos s; omega
  have hzs : s.size ≤ 1048576 := by have := size_pos t; omega
  have hT := tri_made w (.slice an g.ns.length cn) (.slice aw g.ws.length cw) 25 t (.slice a t.args.length ca) s (.slice b s.args.length cb)
  have hC : ∀ X, Tri w (.slice an g.ns.length cn) (.slice aw g.ws.length cw) t (.slice a t.args.length ca) s (.slice b s.args.length cb) X → (X.cell? ⟨w.heap.size, 0, none⟩ = some (.slice an g.ns.length cn) ∧ X.cell? ⟨w.heap.size, 1, none⟩ = some (.slice aw g.ws.length cw)) ∧ (X.cell? ⟨w.heap.size + 1, 0, none⟩ = some (.int .i64 t.v) ∧ X.cell? ⟨w.heap.size + 1, 1, none⟩ = some (.string t.fn) ∧ X.cell? ⟨w.heap.size + 1, 2, none⟩ = some (.slice a t.args.length ca)) ∧ (X.cell? ⟨w.heap.size + 1 + 1, 0, none⟩ = some (.int .i64 s.v) ∧ X.cell? ⟨w.heap.size + 1 + 1, 1, none⟩ = some (.string s.fn) ∧ X.cell? ⟨w.heap.size + 1 + 1, 2, none⟩ = some (.slice b s.args.length cb)) := fun X h => ⟨⟨h.g0, h.g1⟩, ⟨h.a0, h.a1, h.a2⟩, h.b0, h.b1, h.b2⟩
  have HC : Hid _ := hC
  have HT : Hid (Tri w (.slice an g.ns.length cn) (.slice aw g.ws.length cw) t (.slice a t.args.length ca) s (.slice b s.args.length cb) _) := hT
  have HP : Hid (SgAt w g (.slice an g.ns.length cn) (.slice aw g.ws.length cw) ∧ ArgsAt w (.slice a t.args.length ca) t.args ∧ ArgsAt w (.slice b s.args.length cb) s.args ∧ RowAt (.int .i64) w (.slice pa p.length pc) p ∧ t.size + s.size ≤ 1048576 ∧ t.size ≤ 1048576 ∧ s.size ≤ 1048576) := ⟨hg, hat, has, hp, hz, hzt, hzs⟩
  obtain ⟨⟨i0, i1⟩, ⟨i2, i3, i4⟩, i5, i6, i7⟩ := hC _ hT
  clear hg hat has hp hz hzt hzs hT hC
  go_enter Try.func7, Try.ntmps7
  go_wp2_with fail
  refine (own_any (.slice an g.ns.length cn) (.slice aw g.ws.length cw) ⟨_, _, _, rfl⟩ ⟨_, _, _, rfl⟩ _).mono ?_
  rintro e W2 ⟨rfl, hb2⟩
  obtain ⟨W3, hW3⟩ : ∃ W3, W2.alloc (.cells #[.slice an g.ns.length cn, .slice aw g.ws.length cw] 31) = W3 := ⟨_, rfl⟩
  have hb23 : Below W2.heap.size W2 W3 := by rw [← hW3]; exact below_box W2 _
  have hT3 := (HT.out.keep hb2).keep hb23
  obtain ⟨o0, o1⟩ := box2_cells W2 (.slice an g.ns.length cn) (.slice aw g.ws.length cw) 31
  rw [hW3] at o0 o1
  have hz3 : W2.heap.size < W3.heap.size := by rw [← hW3]; simp
  have hat := tat_any w p t _ _ W3 hT3.bel (HP.out.2.2.2.1.keep hT3.bel (Nat.le_refl _)) HP.out.2.1
  have HT3 : Hid (Tri w (.slice an g.ns.length cn) (.slice aw g.ws.length cw) t (.slice a t.args.length ca) s (.slice b s.args.length cb) W3) := hT3
  obtain ⟨⟨j0, j1⟩, ⟨j2, j3, j4⟩, j5, j6, j7⟩ := HC.out _ hT3
  clear hT3 hb2 hb23 i0 i1 i2 i3 i4 i5 i6 i7 HT
  try rw [hW3]
  go_wp2_with fail
  try rw [hW3]
  refine hat.mono ?_
  rintro e W4 ⟨r, ra, rc, is, rfl, H4⟩
  clear hat hW3 j0 j1 j2 j3 j4 j5 j6 j7
  obtain ⟨W5, hW5⟩ : ∃ W5, W4.alloc (tbox r (.slice ra r.args.length rc)) = W5 := ⟨_, rfl⟩
  have hb45 : Below W4.heap.size W4 W5 := by rw [← hW5]; exact below_box W4 _
  have hb35 : Below W3.heap.size W3 W5 := bel_tr H4.out.2.1 hb45
  obtain ⟨r0, r1, r2⟩ := tbox_cells W4 r (.slice ra r.args.length rc)
  rw [hW5] at r0 r1 r2
  have hz4 : W4.heap.size < W5.heap.size := by rw [← hW5]; simp
  have HC5 : Hid (∀ X, Below W5.heap.size W5 X → Tri w (.slice an g.ns.length cn) (.slice aw g.ws.length cw) t (.slice a t.args.length ca) s (.slice b s.args.length cb) X ∧ ((X.cell? ⟨w.heap.size, 0, none⟩ = some (.slice an g.ns.length cn) ∧ X.cell? ⟨w.heap.size, 1, none⟩ = some (.slice aw g.ws.length cw)) ∧ (X.cell? ⟨w.heap.size + 1, 0, none⟩ = some (.int .i64 t.v) ∧ X.cell? ⟨w.heap.size + 1, 1, none⟩ = some (.string t.fn) ∧ X.cell? ⟨w.heap.size + 1, 2, none⟩ = some (.slice a t.args.length ca)) ∧ (X.cell? ⟨w.heap.size + 1 + 1, 0, none⟩ = some (.int .i64 s.v) ∧ X.cell? ⟨w.heap.size + 1 + 1, 1, none⟩ = some (.string s.fn) ∧ X.cell? ⟨w.heap.size + 1 + 1, 2, none⟩ = some (.slice b s.args.length cb))) ∧ (X.cell? ⟨W2.heap.size, 0, none⟩ = some (.slice an g.ns.length cn) ∧ X.cell? ⟨W2.heap.size, 1, none⟩ = some (.slice aw g.ws.length cw)) ∧ (X.cell? ⟨W4.heap.size, 0, none⟩ = some (.int .i64 r.v) ∧ X.cell? ⟨W4.heap.size, 1, none⟩ = some (.string r.fn) ∧ X.cell? ⟨W4.heap.size, 2, none⟩ = some (.slice ra r.args.length rc))) := fun X hX => by
    have hX3 := bel_tr hb35 hX
    have hq := HT3.out.keep hX3
    exact ⟨hq, HC.out _ hq, ⟨kc hX3 hz3 o0, kc hX3 hz3 o1⟩, kc hX hz4 r0, kc hX hz4 r1, kc hX hz4 r2⟩
  have h17 : ∀ X, Below W5.heap.size W5 X → Calls Try.prog 17 #[] X fun e X' => e = .returned (.bool true) ∧ Below W5.heap.size W5 X' := fun X hX => lift_to (R := fun e => e = .returned (.bool true)) hX (alive_any X)
  have HB : Hid (∀ X, Below W5.heap.size W5 X → Below w.heap.size w X) := fun X hX => (HC5.out X hX).1.bel
  have h10 : ∀ X, Below W5.heap.size W5 X → Calls Try.prog 10 #[.agg #[.slice an g.ns.length cn, .slice aw g.ws.length cw]] X fun e X' => e = .returned (.bool g.ok) ∧ Below W5.heap.size W5 X' := fun X hX => lift_to (R := fun e => e = .returned (.bool g.ok)) hX (rgright_any g _ _ X (HP.out.1.keep (HB.out X hX) (Nat.le_refl _)))
  have h22t : ∀ X, Below W5.heap.size W5 X → Calls Try.prog 22 #[.agg #[.int .i64 t.v, .string t.fn, .slice a t.args.length ca]] X fun e X' => e = .returned (.int .i64 t.rightW) ∧ Below W5.heap.size W5 X' := fun X hX => lift_to (R := fun e => e = .returned (.int .i64 t.rightW)) hX (rright_any t _ X (ArgsAt.keep (HB.out X hX) (Nat.le_refl _) HP.out.2.1))
  have h22s : ∀ X, Below W5.heap.size W5 X → Calls Try.prog 22 #[.agg #[.int .i64 s.v, .string s.fn, .slice b s.args.length cb]] X fun e X' => e = .returned (.int .i64 s.rightW) ∧ Below W5.heap.size W5 X' := fun X hX => lift_to (R := fun e => e = .returned (.int .i64 s.rightW)) hX (rright_any s _ X (ArgsAt.keep (HB.out X hX) (Nat.le_refl _) HP.out.2.2.1))
  have H11 : Hid (∀ X x sx y sy, Below W5.heap.size W5 X → ArgsAt X sx (T.args x) → ArgsAt X sy (T.args y) → x.size ≤ 1048576 → y.size ≤ 1048576 → Calls Try.prog 11 #[.agg #[.slice an g.ns.length cn, .slice aw g.ws.length cw], tval x sx, tval y sy] X fun e X' => e = .returned (.int .i64 (ccmp g x y)) ∧ Below X.heap.size X X') := fun X x sx y sy hX h1 h2 h3 h4 => kcompare_any g x y _ _ _ _ X (HP.out.1.keep (HB.out X hX) (Nat.le_refl _)) h1 h2 h3 h4
  have HA : Hid (ArgsAt w (.slice ra r.args.length rc) r.args ∧ ((is = true ∧ T.at p t = some r) ∨ (is = false ∧ T.at p t = none))) := ⟨H4.out.1, H4.out.2.2⟩
  obtain ⟨hq5, ⟨⟨u0, u1⟩, ⟨u2, u3, u4⟩, u5, u6, u7⟩, ⟨q0, q1⟩, q2, q3, q4⟩ := HC5.out W5 (Below.refl _ _)
  clear hq5 hb45 hb35 o0 o1 r0 r1 r2 hz3 hz4 H4
  cases is
  · try rw [hW5]
    go_wp2_with fail
    try rw [hW5]
    refine (h17 _ (Below.refl _ _)).mono ?_
    rintro e W6 ⟨rfl, hb6⟩
    go_wp2
    go_ret
    exact ⟨rfl, HB.out _ hb6⟩
  have HAt : Hid (T.at p t = some r) := by
    rcases HA.out.2 with ⟨_, h⟩ | ⟨h, _⟩
    · exact h
    · cases h
  try rw [hW5]
  go_wp2_with fail
  try rw [hW5]
  refine (h10 _ (Below.refl _ _)).mono ?_
  rintro e W6 ⟨rfl, hb6⟩
  clear u0 u1 u2 u3 u4 u5 u6 u7 q0 q1 q2 q3 q4 h10 hW5
  obtain ⟨_, ⟨⟨u0, u1⟩, ⟨u2, u3, u4⟩, u5, u6, u7⟩, ⟨q0, q1⟩, q2, q3, q4⟩ := HC5.out W6 hb6
  cases hok : g.ok
  · clear hok
    go_wp2_with fail
    refine (h17 _ hb6).mono ?_
    rintro e W7 ⟨rfl, hb7⟩
    go_wp2
    go_ret
    exact ⟨rfl, HB.out _ hb7⟩
  have HOk : Hid g.Ok := ok_iff.1 hok
  clear hok
  go_wp2_with fail
  refine (h22t _ hb6).mono ?_
  rintro e W7 ⟨rfl, hb7⟩
  clear u0 u1 u2 u3 u4 u5 u6 u7 q0 q1 q2 q3 q4 hb6
  obtain ⟨_, ⟨⟨u0, u1⟩, ⟨u2, u3, u4⟩, u5, u6, u7⟩, ⟨q0, q1⟩, q2, q3, q4⟩ := HC5.out W7 hb7
  by_cases hrt : t.rightW = 0
  case neg =>
    have e3 : (t.rightW != 0) = true := by rw [bne_iff_ne]; exact hrt
    clear hrt
    go_wp2_with fail
    refine (h17 _ hb7).mono ?_
    rintro e W8 ⟨rfl, hb8⟩
    go_wp2
    go_ret
    exact ⟨rfl, HB.out _ hb8⟩
  have HRt : Hid (t.rightW = 0) := hrt
  rw [hrt]
  clear hrt
  go_wp2_with fail
  refine (h22s _ hb7).mono ?_
  rintro e W8 ⟨rfl, hb8⟩
  clear u0 u1 u2 u3 u4 u5 u6 u7 q0 q1 q2 q3 q4 hb7
  obtain ⟨_, ⟨⟨u0, u1⟩, ⟨u2, u3, u4⟩, u5, u6, u7⟩, ⟨q0, q1⟩, q2, q3, q4⟩ := HC5.out W8 hb8
  by_cases hrs : s.rightW = 0
  case neg =>
    have e3 : (s.rightW != 0) = true := by rw [bne_iff_ne]; exact hrs
    clear hrs
    go_wp2_with fail
    refine (h17 _ hb8).mono ?_
    rintro e W9 ⟨rfl, hb9⟩
    go_wp2
    go_ret
    exact ⟨rfl, HB.out _ hb9⟩
  have HRs : Hid (s.rightW = 0) := hrs
  rw [hrs]
  clear hrs h22t h22s
  have HSz : Hid (r.size ≤ 1048576) := by have := at_size p t r HAt.out; have := HP.out.2.2.2.2.2.1; show _ ≤ _; omega
  have h11tr : p ≠ [] → ∀ X, Below W5.heap.size W5 X → Calls Try.prog 11 #[.agg #[.slice an g.ns.length cn, .slice aw g.ws.length cw], .agg #[.int .i64 t.v, .string t.fn, .slice a t.args.length ca], .agg #[.int .i64 r.v, .string r.fn, .slice ra r.args.length rc]] X fun e X' => e = .returned (.int .i64 1) ∧ Below W5.heap.size W5 X' := fun hpn X hX => by
    have hb := HB.out X hX
    have h := lift_to (R := fun e => e = .returned (.int .i64 (ccmp g t r))) hX (H11.out X t _ r _ hX (ArgsAt.keep hb (Nat.le_refl _) HP.out.2.1) (ArgsAt.keep hb (Nat.le_refl _) HA.out.1) HP.out.2.2.2.2.2.1 HSz.out)
    rw [ccmp_mk HOk.out HRt.out (at_right p t r HP.out.2.2.2.2.2.1 HRt.out HAt.out) (at_gr g p t r hpn HAt.out)] at h
    exact h
  have h23 : ∀ X, Below W5.heap.size W5 X → Calls Try.prog 23 #[.agg #[.int .i64 t.v, .string t.fn, .slice a t.args.length ca], .slice pa p.length pc, .agg #[.int .i64 s.v, .string s.fn, .slice b s.args.length cb]] X fun e X' => ∃ q qa qc b2, e = .returned (.tuple #[.agg #[.int .i64 q.v, .string q.fn, .slice qa q.args.length qc], .bool b2]) ∧ Hid (PutAns p s t w X X' q (.slice qa q.args.length qc) b2) := fun X hX => rput_any w s _ HP.out.2.2.1 p t _ _ X (HB.out X hX) (HP.out.2.2.2.1.keep (HB.out X hX) (Nat.le_refl _)) HP.out.2.1 (right_shape HRt.out)
  by_cases hn : p.length = 0
  case' neg =>
    have hpn : p ≠ [] := fun e => hn (by rw [e]; rfl)
    have hn1 : (0 : Int) < (p.length : Int) := by omega
    have hn2 : 0 < p.length := by omega
    have hx := h11tr hpn
    clear hpn h11tr hn
    go_wp2_with fail
    refine (hx _ hb8).mono ?_
    clear u0 u1 u2 u3 u4 u5 u6 u7 q0 q1 q2 q3 q4 hb8
    rintro e W8 ⟨rfl, hb8⟩
    obtain ⟨_, ⟨⟨u0, u1⟩, ⟨u2, u3, u4⟩, u5, u6, u7⟩, ⟨q0, q1⟩, q2, q3, q4⟩ := HC5.out W8 hb8
    clear hx
  case' pos =>
    rw [hn] at h23 ⊢
    clear h11tr hn
  all_goals (
    go_wp2_with fail
    refine (h23 _ hb8).mono ?_
    rintro e W9 ⟨q, qa, qc, b2, rfl, H9⟩
    clear u0 u1 u2 u3 u4 u5 u6 u7 q0 q1 q2 q3 q4
    obtain ⟨W10, hW10⟩ : ∃ W10, W9.alloc (tbox q (.slice qa q.args.length qc)) = W10 := ⟨_, rfl⟩
    have hb910 : Below W9.heap.size W9 W10 := by rw [← hW10]; exact below_box W9 _
    have hb59 : Below W5.heap.size W5 W9 := bel_tr hb8 H9.out.2.1
    have HB510 : Hid (Below W5.heap.size W5 W10) := bel_tr hb59 hb910
    obtain ⟨v0, v1, v2⟩ := tbox_cells W9 q (.slice qa q.args.length qc)
    rw [hW10] at v0 v1 v2
    have hz9 : W9.heap.size < W10.heap.size := by rw [← hW10]; simp
    have HRep : Hid (T.rep p s t = some q) := by
      rcases H9.out.2.2 with ⟨_, h⟩ | ⟨_, h⟩
      · exact h
      · exact absurd h (at_rep s p t r HAt.out)
    have HSq : Hid (q.size ≤ 1048576) := by have := rep_size s p t r q HAt.out HRep.out; have := HP.out.2.2.2.2.1; show _ ≤ _; omega
    have HAq : Hid (ArgsAt W10 (.slice qa q.args.length qc) q.args) := ArgsAt.keep hb910 (Nat.le_refl _) H9.out.1.args
    have HC10 : Hid (∀ X, Below W10.heap.size W10 X → (((X.cell? ⟨w.heap.size + 1, 0, none⟩ = some (.int .i64 t.v) ∧ X.cell? ⟨w.heap.size + 1, 1, none⟩ = some (.string t.fn) ∧ X.cell? ⟨w.heap.size + 1, 2, none⟩ = some (.slice a t.args.length ca)) ∧ (X.cell? ⟨w.heap.size + 1 + 1, 0, none⟩ = some (.int .i64 s.v) ∧ X.cell? ⟨w.heap.size + 1 + 1, 1, none⟩ = some (.string s.fn) ∧ X.cell? ⟨w.heap.size + 1 + 1, 2, none⟩ = some (.slice b s.args.length cb))) ∧ (X.cell? ⟨W2.heap.size, 0, none⟩ = some (.slice an g.ns.length cn) ∧ X.cell? ⟨W2.heap.size, 1, none⟩ = some (.slice aw g.ws.length cw)) ∧ (X.cell? ⟨W4.heap.size, 0, none⟩ = some (.int .i64 r.v) ∧ X.cell? ⟨W4.heap.size, 1, none⟩ = some (.string r.fn) ∧ X.cell? ⟨W4.heap.size, 2, none⟩ = some (.slice ra r.args.length rc))) ∧ (X.cell? ⟨W9.heap.size, 0, none⟩ = some (.int .i64 q.v) ∧ X.cell? ⟨W9.heap.size, 1, none⟩ = some (.string q.fn) ∧ X.cell? ⟨W9.heap.size, 2, none⟩ = some (.slice qa q.args.length qc))) := fun X hX => by
      obtain ⟨_, ⟨_, h1⟩, h2, h3⟩ := HC5.out X (bel_tr HB510.out hX)
      exact ⟨⟨h1, h2, h3⟩, kc hX hz9 v0, kc hX hz9 v1, kc hX hz9 v2⟩
    have HB10 : Hid (∀ X, Below W10.heap.size W10 X → Below w.heap.size w X) := fun X hX => HB.out X (bel_tr HB510.out hX)
    have k17 : ∀ X, Below W10.heap.size W10 X → Calls Try.prog 17 #[] X fun e X' => e = .returned (.bool true) ∧ Below W10.heap.size W10 X' := fun X hX => lift_to (R := fun e => e = .returned (.bool true)) hX (alive_any X)
    have k22 : ∀ X, Below W10.heap.size W10 X → Calls Try.prog 22 #[.agg #[.int .i64 q.v, .string q.fn, .slice qa q.args.length qc]] X fun e X' => e = .returned (.int .i64 q.rightW) ∧ Below W10.heap.size W10 X' := fun X hX => lift_to (R := fun e => e = .returned (.int .i64 q.rightW)) hX (rright_any q _ X (ArgsAt.keep hX (Nat.le_refl _) HAq.out))
    have k11rs : ∀ X, Below W10.heap.size W10 X → Calls Try.prog 11 #[.agg #[.slice an g.ns.length cn, .slice aw g.ws.length cw], .agg #[.int .i64 r.v, .string r.fn, .slice ra r.args.length rc], .agg #[.int .i64 s.v, .string s.fn, .slice b s.args.length cb]] X fun e X' => e = .returned (.int .i64 (ccmp g r s)) ∧ Below W10.heap.size W10 X' := fun X hX => by
      have hb := HB10.out X hX
      exact lift_to (R := fun e => e = .returned (.int .i64 (ccmp g r s))) hX (H11.out X r _ s _ (bel_tr HB510.out hX) (ArgsAt.keep hb (Nat.le_refl _) HA.out.1) (ArgsAt.keep hb (Nat.le_refl _) HP.out.2.2.1) HSz.out HP.out.2.2.2.2.2.2)
    have k11tq : q.rightW = 0 → ccmp g r s = 1 → ∀ X, Below W10.heap.size W10 X → Calls Try.prog 11 #[.agg #[.slice an g.ns.length cn, .slice aw g.ws.length cw], .agg #[.int .i64 t.v, .string t.fn, .slice a t.args.length ca], .agg #[.int .i64 q.v, .string q.fn, .slice qa q.args.length qc]] X fun e X' => e = .returned (.int .i64 1) ∧ Below W10.heap.size W10 X' := fun h1 h2 X hX => by
      have hb := HB10.out X hX
      have h := lift_to (R := fun e => e = .returned (.int .i64 (ccmp g t q))) hX (H11.out X t _ q _ (bel_tr HB510.out hX) (ArgsAt.keep hb (Nat.le_refl _) HP.out.2.1) (ArgsAt.keep hX (Nat.le_refl _) HAq.out) HP.out.2.2.2.2.2.1 HSq.out)
      rw [ccmp_mk HOk.out HRt.out h1 (rep_gr g s p t r q (right_shape HRt.out) HAt.out HRep.out (ccmp_one h2).2.2.2)] at h
      exact h
    have k11ts : ∀ X, Below W10.heap.size W10 X → Calls Try.prog 11 #[.agg #[.slice an g.ns.length cn, .slice aw g.ws.length cw], .agg #[.int .i64 t.v, .string t.fn, .slice a t.args.length ca], .agg #[.int .i64 s.v, .string s.fn, .slice b s.args.length cb]] X fun e X' => e = .returned (.int .i64 (ccmp g t s)) ∧ Below W10.heap.size W10 X' := fun X hX => by
      have hb := HB10.out X hX
      exact lift_to (R := fun e => e = .returned (.int .i64 (ccmp g t s))) hX (H11.out X t _ s _ (bel_tr HB510.out hX) (ArgsAt.keep hb (Nat.le_refl _) HP.out.2.1) (ArgsAt.keep hb (Nat.le_refl _) HP.out.2.2.1) HP.out.2.2.2.2.2.1 HP.out.2.2.2.2.2.2)
    have k24 : ∀ X (x : T) xa xc, Below W10.heap.size W10 X → ArgsAt w (.slice xa x.args.length xc) x.args → x.size ≤ 1048576 → Calls Try.prog 24 #[.agg #[.int .i64 x.v, .string x.fn, .slice xa x.args.length xc]] X fun e X' => ∃ ya yk yc, e = .returned (.slice ya yk yc) ∧ yk ≤ 1048576 ∧ Hid (yk = 0 → x.vs = []) ∧ Below W10.heap.size W10 X' := fun X x xa xc hX hx hzx => by
      have hvl := vs_len x
      refine (rvars_any x _ X (ArgsAt.keep (HB10.out X hX) (Nat.le_refl _) hx) (by omega)).mono fun e X' ⟨v', k, he, hrow, hbel⟩ => ?_
      obtain ⟨ya, yc, rfl⟩ := row_slice hrow
      have hl : (x.vs.foldl wth []).length = k := by have := hrow.1; simpa using this
      have hlen := wths_len x.vs []
      simp only [List.length_nil] at hlen
      exact ⟨ya, k, yc, he, by omega, fun h0 => vars_none (by omega), bel_tr hX hbel⟩
    obtain ⟨⟨⟨⟨u2, u3, u4⟩, u5, u6, u7⟩, ⟨q0, q1⟩, q2, q3, q4⟩, q5, q6, q7⟩ := HC10.out W10 (Below.refl _ _)
    clear v0 v1 v2 hz9 hb910 hb59 hb8 h23 H9 h17
    try rw [hW10]
    go_wp2_with fail
    try rw [hW10]
    refine (k22 _ (Below.refl _ _)).mono ?_
    rintro e W11 ⟨rfl, hb11⟩
    clear u2 u3 u4 u5 u6 u7 q0 q1 q2 q3 q4 q5 q6 q7 hW10 k22
    obtain ⟨⟨⟨⟨u2, u3, u4⟩, u5, u6, u7⟩, ⟨q0, q1⟩, q2, q3, q4⟩, q5, q6, q7⟩ := HC10.out W11 hb11
    by_cases hrq : q.rightW = 0
    case' neg =>
      have e3 : (q.rightW == 0) = false := by rw [beq_eq_false_iff_ne]; exact hrq
      clear hrq k11tq k11rs
      go_wp2
    case' pos =>
      have kk := k11tq hrq
      rw [hrq]
      clear hrq k11tq
      go_wp2_with fail
      refine (k11rs _ hb11).mono ?_
      clear u2 u3 u4 u5 u6 u7 q0 q1 q2 q3 q4 q5 q6 q7 hb11
      rintro e W11 ⟨rfl, hb11⟩
      obtain ⟨⟨⟨⟨u2, u3, u4⟩, u5, u6, u7⟩, ⟨q0, q1⟩, q2, q3, q4⟩, q5, q6, q7⟩ := HC10.out W11 hb11
      by_cases hrs1 : ccmp g r s = 1
      case' neg =>
        have e3 : (ccmp g r s == 1) = false := by rw [beq_eq_false_iff_ne]; exact hrs1
        clear hrs1 kk k11rs
        go_wp2
      case' pos =>
        have kk2 := kk hrs1
        rw [hrs1]
        clear hrs1 kk k11rs
        go_wp2_with fail
        refine (kk2 _ hb11).mono ?_
        clear u2 u3 u4 u5 u6 u7 q0 q1 q2 q3 q4 q5 q6 q7 hb11
        rintro e W11 ⟨rfl, hb11⟩
        obtain ⟨⟨⟨⟨u2, u3, u4⟩, u5, u6, u7⟩, ⟨q0, q1⟩, q2, q3, q4⟩, q5, q6, q7⟩ := HC10.out W11 hb11
        clear kk2
        go_wp2
    all_goals (
      have hb11d : Below W10.heap.size W10 W11.drew := hb11.drew
      have K0 := (HC10.out _ hb11d).1.1
      clear u2 u3 u4 u5 u6 u7 q0 q1 q2 q3 q4 q5 q6 q7
      go_region_held3 (fun X => (X.cell? ⟨w.heap.size + 1, 0, none⟩ = some (.int .i64 t.v) ∧ X.cell? ⟨w.heap.size + 1, 1, none⟩ = some (.string t.fn) ∧ X.cell? ⟨w.heap.size + 1, 2, none⟩ = some (.slice a t.args.length ca)) ∧ (X.cell? ⟨w.heap.size + 1 + 1, 0, none⟩ = some (.int .i64 s.v) ∧ X.cell? ⟨w.heap.size + 1 + 1, 1, none⟩ = some (.string s.fn) ∧ X.cell? ⟨w.heap.size + 1 + 1, 2, none⟩ = some (.slice b s.args.length cb))) (first | exact K0 | exact K1 | exact K2) (first
        | (go_at_call 24; refine (k24 _ s b cb hbx1 HP.out.2.2.1 HP.out.2.2.2.2.2.2).mono ?_; rintro e X2 ⟨ya2, yk2, yc2, rfl, hy2, HY2, hbx2⟩; have K2 := (HC10.out _ hbx2).1.1; have hw1 : IntKind.i64.wrap ((yk1 : Int) + (yk2 : Int)) = (yk1 : Int) + (yk2 : Int) := (wrapK _).trans (wrap_small (by omega) (by omega)); have hw2 : IntKind.i64.wrap ((yk2 : Int) + (yk1 : Int)) = (yk2 : Int) + (yk1 : Int) := (wrapK _).trans (wrap_small (by omega) (by omega)))
        | (go_at_call 24; refine (k24 _ t a ca hbx1 HP.out.2.1 HP.out.2.2.2.2.2.1).mono ?_; rintro e X2 ⟨ya2, yk2, yc2, rfl, hy2, HY2, hbx2⟩; have K2 := (HC10.out _ hbx2).1.1; have hw1 : IntKind.i64.wrap ((yk1 : Int) + (yk2 : Int)) = (yk1 : Int) + (yk2 : Int) := (wrapK _).trans (wrap_small (by omega) (by omega)); have hw2 : IntKind.i64.wrap ((yk2 : Int) + (yk1 : Int)) = (yk2 : Int) + (yk1 : Int) := (wrapK _).trans (wrap_small (by omega) (by omega)))
        | (go_at_call 24; refine (k24 _ t a ca hb11d HP.out.2.1 HP.out.2.2.2.2.2.1).mono ?_; rintro e X1 ⟨ya1, yk1, yc1, rfl, hy1, HY1, hbx1⟩; have K1 := (HC10.out _ hbx1).1.1)
        | (go_at_call 24; refine (k24 _ s b cb hb11d HP.out.2.2.1 HP.out.2.2.2.2.2.2).mono ?_; rintro e X1 ⟨ya1, yk1, yc1, rfl, hy1, HY1, hbx1⟩; have K1 := (HC10.out _ hbx1).1.1))
      all_goals (
        obtain ⟨⟨⟨⟨u2, u3, u4⟩, u5, u6, u7⟩, ⟨q0, q1⟩, q2, q3, q4⟩, q5, q6, q7⟩ := HC10.out X2 hbx2
        have HG : Hid (yk1 = 0 → yk2 = 0 → ccmp g t s ≠ 2) := fun h1 h2 => by
          first
          | exact ground_cmp HOk.out HRt.out HRs.out (HY1.out h1) (HY2.out h2)
          | exact ground_cmp HOk.out HRt.out HRs.out (HY2.out h2) (HY1.out h1)
        clear K0 K1 K2 k24 HY1 HY2
        by_cases hgz : yk1 = 0 ∧ yk2 = 0
        · have e5 : (ccmp g t s != 2) = true := by rw [bne_iff_ne]; exact HG.out hgz.1 hgz.2
          obtain ⟨rfl, rfl⟩ := hgz
          go_wp2_with fail
          refine (k11ts _ hbx2).mono ?_
          rintro e W12 ⟨rfl, hb12⟩
          go_wp2_with fail
          refine (k17 _ hb12).mono ?_
          rintro e W13 ⟨rfl, hb13⟩
          go_wp2
          go_ret
          exact ⟨rfl, HB10.out _ hb13⟩
        · have e5 : (((yk1 : Int) + (yk2 : Int)) == 0) = false := by rw [beq_eq_false_iff_ne]; omega
          have e6 : (((yk2 : Int) + (yk1 : Int)) == 0) = false := by rw [beq_eq_false_iff_ne]; omega
          clear hgz
          go_wp2_with fail
          refine (k17 _ hbx2).mono ?_
          rintro e W13 ⟨rfl, hb13⟩
          go_wp2
          go_ret
          exact ⟨rfl, HB10.out _ hb13⟩)))

end Go.Proofs.Ytcnodgjalkcgiaa
