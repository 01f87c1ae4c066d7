/-
  UnifyEach: the walk.
-/
import Derived.Test.YtblfbmdnkgebdaaHF
import Derived.Test.YtblfbmdnkgebdaaHD
import Derived.Test.YtblfbmdnkgebdaaQB
namespace Go.Proofs.Ytblfbmdnkgebdaa
open Go.RowKit Go.Maps

/-- Both terms in their boxes, and what is called with them. -/
structure EX (w W0 : World) (a b : T) (pa : Option Addr) (pc : Nat) (ta : Option Addr) (tc : Nat) (Z : World) : Prop where
  c : (Z.cell? ⟨w.heap.size, 0, none⟩ = some (.int .i64 a.v) ∧ Z.cell? ⟨w.heap.size, 1, none⟩ = some (.string a.fn) ∧ Z.cell? ⟨w.heap.size, 2, none⟩ = some (.slice pa a.args.length pc)) ∧ (Z.cell? ⟨w.heap.size + 1, 0, none⟩ = some (.int .i64 b.v) ∧ Z.cell? ⟨w.heap.size + 1, 1, none⟩ = some (.string b.fn) ∧ Z.cell? ⟨w.heap.size + 1, 2, none⟩ = some (.slice ta b.args.length tc))
  a : ArgsAt Z (.slice pa a.args.length pc) a.args
  b : ArgsAt Z (.slice ta b.args.length tc) b.args
  bel : Below W0.heap.size W0 Z
  s : w.heap.size + 1 < Z.heap.size

theorem EX.keep {w W0 : World} {a b : T} {pa : Option Addr} {pc : Nat} {ta : Option Addr} {tc : Nat} {Z Z' : World} (h : EX w W0 a b pa pc ta tc Z) (hb : Below Z.heap.size Z Z') : EX w W0 a b pa pc ta tc Z' := by
  obtain ⟨⟨⟨a0, a1, a2⟩, b0, b1, b2⟩, ha, hbb, hbel, hs⟩ := h
  exact ⟨⟨⟨kc hb (by omega) a0, kc hb (by omega) a1, kc hb (by omega) a2⟩, kc hb (by omega) b0, kc hb (by omega) b1, kc hb (by omega) b2⟩, ArgsAt.keep hb (Nat.le_refl _) ha, ArgsAt.keep hb (Nat.le_refl _) hbb, hbel.trans (hb.mono hbel.size), Nat.lt_of_lt_of_le hs hb.size⟩

theorem fit_self (t : T) : t.shape = true → Fit (fun x => some (var x)) t t := by
  induction t using T.ind with
  | _ t ih =>
    intro hs
    cases hv : uvar t with
    | true => exact .var t t hv (by rw [← var_of hs hv])
    | false => exact .fn t t hv rfl rfl (fun i h1 h2 => ih _ (List.getElem_mem h1) (shapeArg hs h1))

theorem binds_zero {W : World} {v : Value} (h : BindsAt W v []) : ∃ a c, v = .slice a 0 c := by
  obtain ⟨a, c, rfl, _⟩ := h
  exact ⟨a, c, rfl⟩

set_option maxRecDepth 100000 in
set_option maxHeartbeats 4000000 in
theorem each_no (a b : T) (sa sb : Value) (w : World) (ha : ArgsAt w sa a.args) (hb : ArgsAt w sb b.args) (hno : ¬ (a.rightW = 0 ∧ b.rightW = 0)) :
    Calls Try.prog 7 #[tval a sa, tval b sb] w fun e W => e = .returned (.bool true) ∧ Below w.heap.size w W := by
  obtain ⟨pa, pc, rfl, _, _⟩ := ha.slice
  obtain ⟨ta, tc, rfl, _, _⟩ := hb.slice
  have hb2 : Below w.heap.size w (tbox2 w a (.slice pa a.args.length pc) b (.slice ta b.args.length tc)) := below_box2 w _ _
  have hX : EX w (tbox2 w a (.slice pa a.args.length pc) b (.slice ta b.args.length tc)) a b pa pc ta tc (tbox2 w a (.slice pa a.args.length pc) b (.slice ta b.args.length tc)) := ⟨tbox2_cells w a _ b _, ArgsAt.keep hb2 (Nat.le_refl _) ha, ArgsAt.keep hb2 (Nat.le_refl _) hb, Below.refl _ _, by simp⟩
  obtain ⟨W0, hW0⟩ : ∃ X, tbox2 w a (.slice pa a.args.length pc) b (.slice ta b.args.length tc) = X := ⟨_, rfl⟩
  have HW0 : Hid (((w.alloc (.cells #[.int .i64 a.v, .string a.fn, .slice pa a.args.length pc] 24)).alloc (.cells #[.int .i64 b.v, .string b.fn, .slice ta b.args.length tc] 24)) = W0) := hW0
  rw [hW0] at hX hb2
  have HX := hid hX
  have HB := hid hb2
  have h23 := rright_any a _ W0 hX.a
  obtain ⟨⟨⟨p0, p1, p2⟩, q0, q1, q2⟩, _⟩ := hX
  clear hW0 hb2 ha hb
  by_cases h1 : a.rightW = 0
  · have h1' : (a.rightW != 0) = false := by rw [bne_eq_false_iff_eq]; exact h1
    have h2' : (b.rightW != 0) = true := by rw [bne_iff_ne]; exact fun h2 => hno ⟨h1, h2⟩
    clear h1 hno
    go_enter Try.func7, Try.ntmps7
    go_upto_region 1 with fail
    rw [HW0.out]
    go_wp2_with fail
    refine h23.mono ?_
    rintro e W1 ⟨rfl, b1⟩
    have x1 := HX.out.keep b1
    have h23b := rright_any b _ W1 x1.b
    obtain ⟨⟨⟨r0, r1, r2⟩, s0, s1, s2⟩, _⟩ := x1
    go_wp2_with fail
    refine h23b.mono ?_
    rintro e W2 ⟨rfl, b2⟩
    go_wp2_with fail
    refine (alive_any W2).mono ?_
    rintro e W3 ⟨rfl, b3⟩
    go_wp2
    go_ret
    exact ⟨rfl, ((HB.out.trans (b1.mono HB.out.size)).trans (b2.mono (Nat.le_trans HB.out.size b1.size))).trans (b3.mono (Nat.le_trans HB.out.size (Nat.le_trans b1.size b2.size)))⟩
  · have h1' : (a.rightW != 0) = true := by rw [bne_iff_ne]; exact h1
    clear h1 hno
    go_enter Try.func7, Try.ntmps7
    go_upto_region 1 with fail
    rw [HW0.out]
    go_wp2_with fail
    refine h23.mono ?_
    rintro e W1 ⟨rfl, b1⟩
    go_wp2_with fail
    refine (alive_any W1).mono ?_
    rintro e W3 ⟨rfl, b3⟩
    go_wp2
    go_ret
    exact ⟨rfl, (HB.out.trans (b1.mono HB.out.size)).trans (b3.mono (Nat.le_trans HB.out.size b1.size))⟩

set_option maxRecDepth 100000 in
set_option maxHeartbeats 4000000 in
theorem each_yes (a b : T) (sa sb : Value) (w : World) (ha : ArgsAt w sa a.args) (hb : ArgsAt w sb b.args) (hr : a.rightW = 0 ∧ b.rightW = 0) (hsa : a.size ≤ 1048576) (hsb : b.size ≤ 1048576) :
    Calls Try.prog 7 #[tval a sa, tval b sb] w fun e W => e = .returned (.bool true) ∧ Below w.heap.size w W := by
  obtain ⟨pa, pc, rfl, _, _⟩ := ha.slice
  obtain ⟨ta, tc, rfl, _, _⟩ := hb.slice
  have hb2 : Below w.heap.size w (tbox2 w a (.slice pa a.args.length pc) b (.slice ta b.args.length tc)) := below_box2 w _ _
  have hX : EX w (tbox2 w a (.slice pa a.args.length pc) b (.slice ta b.args.length tc)) a b pa pc ta tc (tbox2 w a (.slice pa a.args.length pc) b (.slice ta b.args.length tc)) := ⟨tbox2_cells w a _ b _, ArgsAt.keep hb2 (Nat.le_refl _) ha, ArgsAt.keep hb2 (Nat.le_refl _) hb, Below.refl _ _, by simp⟩
  obtain ⟨W0, hW0⟩ : ∃ X, tbox2 w a (.slice pa a.args.length pc) b (.slice ta b.args.length tc) = X := ⟨_, rfl⟩
  have HW0 : Hid (((w.alloc (.cells #[.int .i64 a.v, .string a.fn, .slice pa a.args.length pc] 24)).alloc (.cells #[.int .i64 b.v, .string b.fn, .slice ta b.args.length tc] 24)) = W0) := hW0
  rw [hW0] at hX hb2
  have HX := hid hX
  have HB := hid hb2
  have HR : Hid (a.rightW = 0 ∧ b.rightW = 0 ∧ a.size ≤ 1048576 ∧ b.size ≤ 1048576) := ⟨hr.1, hr.2, hsa, hsb⟩
  have h1' : (a.rightW != 0) = false := by rw [bne_eq_false_iff_eq]; exact hr.1
  have h2' : (b.rightW != 0) = false := by rw [bne_eq_false_iff_eq]; exact hr.2
  have h23 := rright_any a _ W0 hX.a
  obtain ⟨⟨⟨p0, p1, p2⟩, q0, q1, q2⟩, _⟩ := hX
  clear hW0 hb2 ha hb hr hsa hsb
  go_enter Try.func7, Try.ntmps7
  go_upto_region 1 with fail
  rw [HW0.out]
  go_wp2_with fail
  refine h23.mono ?_
  rintro e W1 ⟨rfl, b1⟩
  have X1 := hid (HX.out.keep b1)
  have h23b := rright_any b _ W1 X1.out.b
  obtain ⟨⟨⟨r0, r1, r2⟩, s0, s1, s2⟩, _⟩ := X1.out
  clear b1 h23 p0 p1 p2 q0 q1 q2
  go_wp2_with fail
  refine h23b.mono ?_
  rintro e W2 ⟨rfl, b2⟩
  have X2 := hid (X1.out.keep b2)
  have hu1 := unify_any a a _ _ W2 X2.out.a X2.out.a HR.out.2.2.1 HR.out.2.2.1
  obtain ⟨⟨⟨p0, p1, p2⟩, q0, q1, q2⟩, _⟩ := X2.out
  clear b2 h23b r0 r1 r2 s0 s1 s2
  go_wp2_with fail
  refine hu1.mono ?_
  rintro e W3 ⟨hu, b3⟩
  obtain ⟨v3, rfl, l3⟩ := unify_ans hu
  obtain ⟨u1, u2, u3⟩ := u_self HR.out.1
  rw [u1, u2]
  rw [u3] at l3
  obtain ⟨a3, c3, rfl⟩ := binds_zero l3
  have X3 := hid (X2.out.keep b3)
  clear b3 hu1 hu l3 u1 u2 u3 p0 p1 p2 q0 q1 q2
  obtain ⟨vb, hvb⟩ : ∃ x, variantB a b = x := ⟨_, rfl⟩
  have hvs : variantB b a = vb := by
    rw [← hvb]
    unfold variantB
    cases (mres a b).isSome <;> cases (mres b a).isSome <;> simp [Bool.and_comm]
  have hvv : variantB a a = true := by
    unfold variantB
    have : (mres a a).isSome = true := by
      cases hm : mres a a with
      | some τ => rfl
      | none =>
        refine absurd ?_ ((mrun_says (mres_run a a)).2 hm (fun x => some (var x)) (ext_none _))
        intro q hq
        simp only [List.mem_singleton] at hq
        subst hq
        exact fit_self a (right_shape HR.out.1)
    simp [this, HR.out.1]
  have hcaa : ∀ Z, Below W3.heap.size W3 Z → Calls Try.prog 15 #[tval a (.slice pa a.args.length pc), tval a (.slice pa a.args.length pc)] Z fun e w' => e = .returned (.bool true) ∧ Below Z.heap.size Z w' := fun Z h => by
    have hx := X3.out.keep h
    rw [← hvv]
    exact variant_any a a _ _ Z hx.a hx.a HR.out.2.2.1 HR.out.2.2.1
  have hcab : ∀ Z, Below W3.heap.size W3 Z → Calls Try.prog 15 #[tval a (.slice pa a.args.length pc), tval b (.slice ta b.args.length tc)] Z fun e w' => e = .returned (.bool vb) ∧ Below Z.heap.size Z w' := fun Z h => by
    have hx := X3.out.keep h
    rw [← hvb]
    exact variant_any a b _ _ Z hx.a hx.b HR.out.2.2.1 HR.out.2.2.2
  have hcba : ∀ Z, Below W3.heap.size W3 Z → Calls Try.prog 15 #[tval b (.slice ta b.args.length tc), tval a (.slice pa a.args.length pc)] Z fun e w' => e = .returned (.bool vb) ∧ Below Z.heap.size Z w' := fun Z h => by
    have hx := X3.out.keep h
    rw [← hvs]
    exact variant_any b a _ _ Z hx.b hx.a HR.out.2.2.2 HR.out.2.2.1
  obtain ⟨⟨⟨c0, c1, c2⟩, d0, d1, d2⟩, _, _, _, hs3⟩ := X3.out
  have l0 : w.heap.size < W3.heap.size := by omega
  have m0 := fun q => cell_far l0 c0 q
  have m1 := fun q => cell_far l0 c1 q
  have m2 := fun q => cell_far l0 c2 q
  have n0 := fun q => cell_far hs3 d0 q
  have n1 := fun q => cell_far hs3 d1 q
  have n2 := fun q => cell_far hs3 d2 q
  have hvn : (vb != vb) = false := by cases vb <;> rfl
  clear hvb hvs hvv c0 c1 c2 d0 d1 d2
  go_wp2
  refine wp_region_far (by kernel_rfl) ?_
  iterate 20 (first | go_big_quiet_step (exact calls_far hcaa _) | quiet_step (exact calls_far hcaa _))
  iterate 1 (first | go_big_quiet_step (exact calls_far hcab _) | quiet_step (exact calls_far hcab _))
  repeat (first | go_big_quiet_step (exact calls_far hcba _) | quiet_step (exact calls_far hcba _))
  refine wpQuiet_nil ?_
  intro W4 hw'
  have b4 : Below W3.heap.size W3 W4 := by
    obtain ⟨pf, hp⟩ := hw'
    rw [hp]
    exact below_far _ pf
  have X4 := hid (X3.out.keep b4)
  have hu2 := unify_any a b _ _ W4 X4.out.a X4.out.b HR.out.2.2.1 HR.out.2.2.2
  obtain ⟨⟨⟨p0, p1, p2⟩, q0, q1, q2⟩, _⟩ := X4.out
  clear hw' b4 hcaa hcab hcba m0 m1 m2 n0 n1 n2 l0 hs3
  go_wp2_with fail
  refine hu2.mono ?_
  rintro e W5 ⟨hu, b5⟩
  obtain ⟨v5, rfl, l5⟩ := unify_ans hu
  have X5 := hid (X4.out.keep b5)
  have hu3 := unify_any b a _ _ W5 X5.out.b X5.out.a HR.out.2.2.2 HR.out.2.2.1
  obtain ⟨⟨⟨r0, r1, r2⟩, s0, s1, s2⟩, _⟩ := X5.out
  clear hu2 hu b5 p0 p1 p2 q0 q1 q2
  go_wp2_with fail
  refine hu3.mono ?_
  rintro e W6 ⟨hu, b6⟩
  obtain ⟨v6, rfl, l6⟩ := unify_ans hu
  have X6 := hid (X5.out.keep b6)
  obtain ⟨y1, y2, y3⟩ := u_symm b a
  rw [y3] at l6
  rw [y1, y2]
  have h11 := binds_same _ v5 v6 W6 (l5.keep b6) l6
  obtain ⟨⟨⟨p0, p1, p2⟩, q0, q1, q2⟩, _⟩ := X6.out
  clear hu3 hu b6 r0 r1 r2 s0 s1 s2 l5 l6 y1 y2 y3
  obtain ⟨ub, hub⟩ : ∃ x, uB a b = x := ⟨_, rfl⟩
  obtain ⟨ue, hue⟩ : ∃ x, uE a b = x := ⟨_, rfl⟩
  rw [hub, hue]
  have hb' : (ub != ub) = false := by cases ub <;> rfl
  have he' : (ue != ue) = false := by rw [bne_eq_false_iff_eq]
  clear hub hue
  go_wp2_with fail
  refine h11.mono ?_
  rintro e W7 ⟨rfl, b7⟩
  have X7 := hid (X6.out.keep b7)
  have hma := match_any a b _ _ W7 X7.out.a X7.out.b HR.out.2.2.1 HR.out.2.2.2
  obtain ⟨⟨⟨r0, r1, r2⟩, s0, s1, s2⟩, _⟩ := X7.out
  clear h11 b7 p0 p1 p2 q0 q1 q2
  go_wp2_with fail
  refine hma.mono ?_
  rintro e W8 ⟨hm, b8⟩
  have X8 := hid (X7.out.keep b8)
  obtain ⟨⟨⟨p0, p1, p2⟩, q0, q1, q2⟩, _⟩ := X8.out
  clear hma b8 r0 r1 r2 s0 s1 s2
  rcases hm with ⟨g1, g2⟩ | ⟨g1, g2, g3⟩ | ⟨g1, τ, v, ks, g2, g3, g4, g5⟩
  · exact absurd ⟨HR.out.1, HR.out.2.1⟩ g1
  · subst g3
    go_wp2_with fail
    refine (alive_any W8).mono ?_
    rintro e W9 ⟨rfl, b9⟩
    go_wp2
    go_ret
    exact ⟨rfl, HB.out.trans ((X8.out.bel.trans (b9.mono X8.out.bel.size)).mono HB.out.size)⟩
  · subst g3
    have hoa := ok_of HR.out.1 HR.out.2.2.1
    have hob := ok_of HR.out.2.1 HR.out.2.2.2
    obtain ⟨k1, k2⟩ := match_sub hoa hob g2 g4
    have h17 := apply_ok _ k1 a hoa.rt HR.out.1 (by rw [k2]; exact hob.fits) v _ W8 g5 X8.out.a
    rw [k2] at h17
    clear g1 g2 g4 g5 hoa hob k1 k2
    go_wp2_with fail
    refine h17.mono ?_
    rintro e W9 ⟨sl, rfl, k9, b9⟩
    clear p0 p1 p2 q0 q1 q2
    have X9 := hid (X8.out.keep b9)
    obtain ⟨xa, xc, rfl, _, _⟩ := k9.slice
    have bA : Below W9.heap.size W9 (W9.alloc (.cells #[.int .i64 b.v, .string b.fn, .slice xa b.args.length xc] 24)) := below_box W9 _
    have X10 := hid (X9.out.keep bA)
    have h18 := rsame_any b b (.slice xa b.args.length xc) _ _ (ArgsAt.keep bA (Nat.le_refl _) k9) X10.out.b
    rw [same_iff.mpr rfl] at h18
    obtain ⟨⟨⟨p0, p1, p2⟩, q0, q1, q2⟩, _⟩ := X10.out
    clear h17 k9 b9 bA
    go_wp2_with fail
    refine h18.mono ?_
    rintro e W11 ⟨rfl, b11⟩
    have X11 := hid (X10.out.keep b11)
    clear h18 b11 p0 p1 p2 q0 q1 q2
    go_wp2_with fail
    refine (alive_any W11).mono ?_
    rintro e W12 ⟨rfl, b12⟩
    go_wp2
    go_ret
    exact ⟨rfl, HB.out.trans ((X11.out.bel.trans (b12.mono X11.out.bel.size)).mono HB.out.size)⟩

/-- UnifyEach answers true at every two terms. -/
theorem each_any (a b : T) (sa sb : Value) (w : World) (ha : ArgsAt w sa a.args) (hb : ArgsAt w sb b.args) (hsa : a.size ≤ 1048576) (hsb : b.size ≤ 1048576) :
    Calls Try.prog 7 #[tval a sa, tval b sb] w fun e W => e = .returned (.bool true) ∧ Below w.heap.size w W := by
  by_cases h : a.rightW = 0 ∧ b.rightW = 0
  · exact each_yes a b sa sb w ha hb h hsa hsb
  · exact each_no a b sa sb w ha hb h

end Go.Proofs.Ytblfbmdnkgebdaa
