import Derived.Test.YthkinkcpfcpehaaGreatDoorHC
import Derived.Test.YthkinkcpfcpehaaGreatDoorGY
namespace Go.Proofs.YthkinkcpfcpehaaGreatDoor
set_option maxRecDepth 100000
set_option maxHeartbeats 16000000
open Go.RowKit
/-- Is the atom a predicate? -/
def pB (f : Fm) : Bool := Lib.hasPrefix f.l.fn.data.toList [64]
theorem isPred_any {P : Nat → Prop} {f : Fm} {sl sr sk : Value} {w : World} (h : FmP P w f sl sr sk) : Calls Tryz.prog 108 #[fval f sl sr sk] w fun e w' => e = .returned (.bool (pB f)) ∧ Below w.heap.size w w' := by
  obtain ⟨la, lc, rfl, _, _⟩ := h.l.slice'
  obtain ⟨ra, rc, rfl, _, _⟩ := h.r.slice'
  obtain ⟨ka, kc, rfl, _, _⟩ := h.k.slice
  have hb0 := hidR (below_box w (fbox f (.slice la f.l.args.length lc) (.slice ra f.r.args.length rc) (.slice ka f.kids.length kc)))
  have hc : ∀ W, Calls Tryz.prog 147 #[.string f.l.fn, .string ⟨#[64]⟩] W fun e w' => e = .returned (.bool (pB f)) ∧ w' = W := fun W => Lx.Tryz.strings_HasPrefix f.l.fn ⟨#[64]⟩ W
  clear h
  go_enter Tryz.func108, Tryz.ntmps108
  go_wp2_with fail
  refine (hc _).mono ?_
  rintro e W2 ⟨rfl, rfl⟩
  go_wp2
  go_ret
  exact ⟨rfl, hb0.out⟩
/-- Names of a formula that are not great. -/
def Fm.nsm : Fm → Prop
  | .mk _ n l r ks => n.size ≤ 2097152 ∧ l.nsm ∧ r.nsm ∧ nsms ks
where nsms : List Fm → Prop
  | [] => True
  | a :: r => a.nsm ∧ nsms r
theorem fnsms_mem : ∀ {l : List Fm}, Fm.nsm.nsms l → ∀ a ∈ l, a.nsm
  | b :: r, h, a, ha => by
    rw [Fm.nsm.nsms] at h
    rcases List.mem_cons.1 ha with rfl | ha
    · exact h.1
    · exact fnsms_mem h.2 a ha
theorem Fm.nsm_nm {f : Fm} (h : f.nsm) : f.nm.size ≤ 2097152 := by cases f; rw [Fm.nsm] at h; exact h.1
theorem Fm.nsm_l {f : Fm} (h : f.nsm) : f.l.nsm := by cases f; rw [Fm.nsm] at h; exact h.2.1
theorem Fm.nsm_r {f : Fm} (h : f.nsm) : f.r.nsm := by cases f; rw [Fm.nsm] at h; exact h.2.2.1
theorem Fm.nsm_kids {f : Fm} (h : f.nsm) : ∀ a ∈ f.kids, a.nsm := by cases f; rw [Fm.nsm] at h; exact fnsms_mem h.2.2.2
/-- Are its terms so? -/
noncomputable def termsB (f : Fm) : Bool := if f.k = 1 then (if pB f = true then decide (f.l.v = 0) && (Lx.nmB (f.l.fn.data.toList.drop 1) && (f.l.args.all trB && same f.r trueT)) else trB f.l && trB f.r) else same f.l t0 && same f.r t0
theorem hasP_pos {s : ByteArray} (h : Lib.hasPrefix s.data.toList [64] = true) : 1 ≤ s.size := by
  rw [← Lx.size_len]
  cases hl : s.data.toList with
  | nil => rw [hl] at h; cases h
  | cons a r => simp
theorem shapedTerms_any {P : Nat → Prop} {f : Fm} (hn : f.nsm) {sl sr sk : Value} {w : World} (h : FmP P w f sl sr sk) : Calls Tryz.prog 80 #[fval f sl sr sk] w fun e w' => e = .returned (.bool (termsB f)) ∧ Below w.heap.size w w' := by
  obtain ⟨la, lc, rfl, _, _⟩ := h.l.slice'
  obtain ⟨ra, rc, rfl, _, _⟩ := h.r.slice'
  obtain ⟨ka, kc, rfl, _, _⟩ := h.k.slice
  have hI0 := SzI.start h
  have hA : Hid (∀ X t sl2, SzI w f (.slice la f.l.args.length lc) (.slice ra f.r.args.length rc) (.slice ka f.kids.length kc) X → ArgsAt X sl2 t.args → Calls Tryz.prog 48 #[.agg #[.int .i64 f.l.v, .string f.l.fn, .slice la f.l.args.length lc], tval t sl2] X fun e X' => e = .returned (.bool (same f.l t)) ∧ SzI w f (.slice la f.l.args.length lc) (.slice ra f.r.args.length rc) (.slice ka f.kids.length kc) X') := fun X t sl2 hX ht => (tsame_any f.l t _ _ X hX.l ht).mono fun _ _ ⟨he, hb⟩ => ⟨he, hX.keep hb⟩
  have hBB : Hid (∀ X t sl2, SzI w f (.slice la f.l.args.length lc) (.slice ra f.r.args.length rc) (.slice ka f.kids.length kc) X → ArgsAt X sl2 t.args → Calls Tryz.prog 48 #[.agg #[.int .i64 f.r.v, .string f.r.fn, .slice ra f.r.args.length rc], tval t sl2] X fun e X' => e = .returned (.bool (same f.r t)) ∧ SzI w f (.slice la f.l.args.length lc) (.slice ra f.r.args.length rc) (.slice ka f.kids.length kc) X') := fun X t sl2 hX ht => (tsame_any f.r t _ _ X hX.r ht).mono fun _ _ ⟨he, hb⟩ => ⟨he, hX.keep hb⟩
  have hL : Hid (∀ X, SzI w f (.slice la f.l.args.length lc) (.slice ra f.r.args.length rc) (.slice ka f.kids.length kc) X → Calls Tryz.prog 117 #[.agg #[.int .i64 f.l.v, .string f.l.fn, .slice la f.l.args.length lc]] X fun e X' => e = .returned (.bool (trB f.l)) ∧ SzI w f (.slice la f.l.args.length lc) (.slice ra f.r.args.length rc) (.slice ka f.kids.length kc) X') := fun X hX => (isTerm_any f.l (Fm.nsm_l hn) _ X hX.l).mono fun _ _ ⟨he, hb⟩ => ⟨he, hX.keep hb⟩
  have hRr : Hid (∀ X, SzI w f (.slice la f.l.args.length lc) (.slice ra f.r.args.length rc) (.slice ka f.kids.length kc) X → Calls Tryz.prog 117 #[.agg #[.int .i64 f.r.v, .string f.r.fn, .slice ra f.r.args.length rc]] X fun e X' => e = .returned (.bool (trB f.r)) ∧ SzI w f (.slice la f.l.args.length lc) (.slice ra f.r.args.length rc) (.slice ka f.kids.length kc) X') := fun X hX => (isTerm_any f.r (Fm.nsm_r hn) _ X hX.r).mono fun _ _ ⟨he, hb⟩ => ⟨he, hX.keep hb⟩
  have hAl : Hid (∀ X, SzI w f (.slice la f.l.args.length lc) (.slice ra f.r.args.length rc) (.slice ka f.kids.length kc) X → Calls Tryz.prog 81 #[.slice la f.l.args.length lc, .func (.func 117) #[] #[]] X fun e X' => e = .returned (.bool (f.l.args.all trB)) ∧ SzI w f (.slice la f.l.args.length lc) (.slice ra f.r.args.length rc) (.slice ka f.kids.length kc) X') := fun X hX => (tall_any (p := trB) (fun a ha sa W _ hsa => isTerm_any a (T.nsm_args (Fm.nsm_l hn) a ha) sa W hsa) hX.l).mono fun _ _ ⟨he, hb⟩ => ⟨he, hX.keep hb⟩
  have hP : Hid (∀ X, SzI w f (.slice la f.l.args.length lc) (.slice ra f.r.args.length rc) (.slice ka f.kids.length kc) X → Calls Tryz.prog 108 #[fval f (.slice la f.l.args.length lc) (.slice ra f.r.args.length rc) (.slice ka f.kids.length kc)] X fun e X' => e = .returned (.bool (pB f)) ∧ SzI w f (.slice la f.l.args.length lc) (.slice ra f.r.args.length rc) (.slice ka f.kids.length kc) X') := fun X hX => (isPred_any (h.keep hX.bel.size (fun k hk hl => ⟨hk, hX.bel.block k hl⟩))).mono fun _ _ ⟨he, hb⟩ => ⟨he, hX.keep hb⟩
  have hN : Hid (1 ≤ f.l.fn.size → ∀ W, Calls Tryz.prog 116 #[.string (f.l.fn.extract 1 f.l.fn.size)] W fun e w' => e = .returned (.bool (Lx.nmB (f.l.fn.data.toList.drop 1))) ∧ w' = W) := fun _ W => by
    have hs := T.nsm_fn (Fm.nsm_l hn)
    have := Lx.isName_any (f.l.fn.extract 1 f.l.fn.size) W (by rw [Lx.extract_drop, Lx.ofL_size, List.length_drop, Lx.size_len]; omega)
    rwa [show (f.l.fn.extract 1 f.l.fn.size).data.toList = f.l.fn.data.toList.drop 1 by rw [Lx.extract_drop]; rfl] at this
  have hCf : Hid (∀ X, SzI w f (.slice la f.l.args.length lc) (.slice ra f.r.args.length rc) (.slice ka f.kids.length kc) X → _) := fun X hX => And.intro (szi_cells hX) (cell_storeR (vs := [_, _, _, _, _, _, _, _, _]) (i := 1) hX.box rfl)
  have hbl : Hid (∀ X, SzI w f (.slice la f.l.args.length lc) (.slice ra f.r.args.length rc) (.slice ka f.kids.length kc) X → Below w.heap.size w X) := fun X h => h.bel
  obtain ⟨S, hS⟩ : ∃ S, SzI w f (.slice la f.l.args.length lc) (.slice ra f.r.args.length rc) (.slice ka f.kids.length kc) = S := ⟨_, rfl⟩
  rw [hS] at hI0 hA hBB hL hRr hAl hP hCf hbl
  obtain ⟨W0, hW0⟩ : ∃ X, w.alloc (fbox f (.slice la f.l.args.length lc) (.slice ra f.r.args.length rc) (.slice ka f.kids.length kc)) = X := ⟨_, rfl⟩
  obtain ⟨R, hR⟩ : ∃ R, w.heap.size = R := ⟨_, rfl⟩
  rw [hW0] at hI0
  rw [hR] at hCf
  have HI0 := hidR hI0
  have HW0 := hidR hW0
  have hpp : Hid (pB f = true → 1 ≤ f.l.fn.size) := fun hp => hasP_pos hp
  have HE : Hid (termsB f = if f.k = 1 then (if pB f = true then decide (f.l.v = 0) && (Lx.nmB (f.l.fn.data.toList.drop 1) && (f.l.args.all trB && same f.r trueT)) else trB f.l && trB f.r) else same f.l t0 && same f.r t0) := rfl
  clear hS h hn hI0 hW0
  by_cases hk : f.k = 1
  case neg =>
    have hkb : (f.k != 1) = true := by simpa using hk
    have HF1 : Hid (termsB f = (same f.l t0 && same f.r t0)) := by show _ = _; rw [HE.out, if_neg hk]
    have hc1 := hA.out W0 t0 (.slice none 0 0) HI0.out (ArgsP.nil (fun _ => True) _).args
    have hc2 := fun X (hX : S X) => hBB.out X t0 (.slice none 0 0) hX (ArgsP.nil (fun _ => True) _).args
    obtain ⟨b1, hb1⟩ : ∃ b, same f.l t0 = b := ⟨_, rfl⟩
    obtain ⟨b2, hb2⟩ : ∃ b, same f.r t0 = b := ⟨_, rfl⟩
    rw [hb1] at hc1 HF1
    rw [hb2] at hc2 HF1
    clear hk hb1 hb2 HE hA hBB hL hRr hAl hP hN
    obtain ⟨⟨n0, n2, n3, n4, n5, n6, n7, n8⟩, n1⟩ := hCf.out _ HI0.out
    cases b1 with
    | false =>
      go_enter Tryz.func80, Tryz.ntmps80
      go_upto_region 1 with fail
      try simp only [hR]
      rw [show _ = W0 from HW0.out]
      have hc := hc1
      go_wp2_with fail
      refine hc.mono ?_
      rintro e W1 ⟨rfl, hI1⟩
      have HI1 := hidR hI1
      clear hc hI1 hc1
      clear n0 n1 n2 n3 n4 n5 n6 n7 n8
      obtain ⟨⟨n0, n2, n3, n4, n5, n6, n7, n8⟩, n1⟩ := hCf.out _ HI1.out
      go_wp2
      go_ret
      exact ⟨ret_bool HF1.out.symm, hbl.out _ HI1.out⟩
    | true =>
      go_enter Tryz.func80, Tryz.ntmps80
      go_upto_region 1 with fail
      try simp only [hR]
      rw [show _ = W0 from HW0.out]
      have hc := hc1
      go_wp2_with fail
      refine hc.mono ?_
      rintro e W1 ⟨rfl, hI1⟩
      have HI1 := hidR hI1
      clear hc hI1 hc1
      clear n0 n1 n2 n3 n4 n5 n6 n7 n8
      obtain ⟨⟨n0, n2, n3, n4, n5, n6, n7, n8⟩, n1⟩ := hCf.out _ HI1.out
      have hc := hc2 _ HI1.out
      go_wp2_with fail
      refine hc.mono ?_
      rintro e W2 ⟨rfl, hI2⟩
      have HI2 := hidR hI2
      clear hc hI2 hc2
      clear n0 n1 n2 n3 n4 n5 n6 n7 n8
      obtain ⟨⟨n0, n2, n3, n4, n5, n6, n7, n8⟩, n1⟩ := hCf.out _ HI2.out
      go_wp2
      go_ret
      exact ⟨ret_bool HF1.out.symm, hbl.out _ HI2.out⟩
  case pos =>
    have hkb : (f.k != 1) = false := by simpa using hk
    rw [if_pos hk] at HE
    have hc1 := hP.out W0 HI0.out
    obtain ⟨p, hp⟩ : ∃ b, pB f = b := ⟨_, rfl⟩
    rw [hp] at hc1 HE hpp
    clear hk hp hA hP
    obtain ⟨⟨n0, n2, n3, n4, n5, n6, n7, n8⟩, n1⟩ := hCf.out _ HI0.out
    cases p with
    | false =>
      have hc2 := fun X (hX : S X) => hL.out X hX
      have hc3 := fun X (hX : S X) => hRr.out X hX
      have HF1 : Hid (termsB f = (trB f.l && trB f.r)) := by show _ = _; rw [HE.out]; rfl
      obtain ⟨b1, hb1⟩ : ∃ b, trB f.l = b := ⟨_, rfl⟩
      obtain ⟨b2, hb2⟩ : ∃ b, trB f.r = b := ⟨_, rfl⟩
      rw [hb1] at hc2 HF1
      rw [hb2] at hc3 HF1
      clear hb1 hb2 HE hBB hL hRr hAl hN hpp
      cases b1 with
      | false =>
        go_enter Tryz.func80, Tryz.ntmps80
        go_upto_region 1 with fail
        try simp only [hR]
        rw [show _ = W0 from HW0.out]
        have hc := hc1
        go_wp2_with fail
        refine hc.mono ?_
        rintro e W1 ⟨rfl, hI1⟩
        have HI1 := hidR hI1
        clear hc hI1 hc1
        clear n0 n1 n2 n3 n4 n5 n6 n7 n8
        obtain ⟨⟨n0, n2, n3, n4, n5, n6, n7, n8⟩, n1⟩ := hCf.out _ HI1.out
        have hc := hc2 _ HI1.out
        go_wp2_with fail
        refine hc.mono ?_
        rintro e W2 ⟨rfl, hI2⟩
        have HI2 := hidR hI2
        clear hc hI2 hc2
        clear n0 n1 n2 n3 n4 n5 n6 n7 n8
        obtain ⟨⟨n0, n2, n3, n4, n5, n6, n7, n8⟩, n1⟩ := hCf.out _ HI2.out
        go_wp2
        go_ret
        exact ⟨ret_bool HF1.out.symm, hbl.out _ HI2.out⟩
      | true =>
        go_enter Tryz.func80, Tryz.ntmps80
        go_upto_region 1 with fail
        try simp only [hR]
        rw [show _ = W0 from HW0.out]
        have hc := hc1
        go_wp2_with fail
        refine hc.mono ?_
        rintro e W1 ⟨rfl, hI1⟩
        have HI1 := hidR hI1
        clear hc hI1 hc1
        clear n0 n1 n2 n3 n4 n5 n6 n7 n8
        obtain ⟨⟨n0, n2, n3, n4, n5, n6, n7, n8⟩, n1⟩ := hCf.out _ HI1.out
        have hc := hc2 _ HI1.out
        go_wp2_with fail
        refine hc.mono ?_
        rintro e W2 ⟨rfl, hI2⟩
        have HI2 := hidR hI2
        clear hc hI2 hc2
        clear n0 n1 n2 n3 n4 n5 n6 n7 n8
        obtain ⟨⟨n0, n2, n3, n4, n5, n6, n7, n8⟩, n1⟩ := hCf.out _ HI2.out
        have hc := hc3 _ HI2.out
        go_wp2_with fail
        refine hc.mono ?_
        rintro e W3 ⟨rfl, hI3⟩
        have HI3 := hidR hI3
        clear hc hI3 hc3
        clear n0 n1 n2 n3 n4 n5 n6 n7 n8
        obtain ⟨⟨n0, n2, n3, n4, n5, n6, n7, n8⟩, n1⟩ := hCf.out _ HI3.out
        go_wp2
        go_ret
        exact ⟨ret_bool HF1.out.symm, hbl.out _ HI3.out⟩
    | true =>
      have hps : 1 ≤ f.l.fn.size := hpp.out rfl
      have hc2 := hN.out hps
      have hc3 := fun X (hX : S X) => hAl.out X hX
      have hc4 := fun X (hX : S X) => hBB.out X trueT (.slice none 0 0) hX (ArgsP.nil (fun _ => True) _).args
      have HF1 : Hid (termsB f = (decide (f.l.v = 0) && (Lx.nmB (f.l.fn.data.toList.drop 1) && (f.l.args.all trB && same f.r trueT)))) := by show _ = _; rw [HE.out]; rfl
      obtain ⟨b1, hb1⟩ : ∃ b, Lx.nmB (f.l.fn.data.toList.drop 1) = b := ⟨_, rfl⟩
      obtain ⟨b2, hb2⟩ : ∃ b, f.l.args.all trB = b := ⟨_, rfl⟩
      obtain ⟨b3, hb3⟩ : ∃ b, same f.r trueT = b := ⟨_, rfl⟩
      rw [hb1] at hc2 HF1
      rw [hb2] at hc3 HF1
      rw [hb3] at hc4 HF1
      have hps1 : (1 : Int) ≤ (f.l.fn.size : Int) := by omega
      clear hb1 hb2 hb3 HE hBB hL hRr hAl hN hpp
      by_cases hv : f.l.v = 0
      case neg =>
        have hvb : (f.l.v == 0) = false := by simpa using hv
        have HF : Hid (termsB f = false) := by show _ = _; rw [HF1.out, decide_eq_false hv]; rfl
        clear hc2 hc3 hc4 HF1 hv
        go_enter Tryz.func80, Tryz.ntmps80
        go_upto_region 1 with fail
        try simp only [hR]
        rw [show _ = W0 from HW0.out]
        have hc := hc1
        go_wp2_with fail
        refine hc.mono ?_
        rintro e W1 ⟨rfl, hI1⟩
        have HI1 := hidR hI1
        clear hc hI1 hc1
        clear n0 n1 n2 n3 n4 n5 n6 n7 n8
        obtain ⟨⟨n0, n2, n3, n4, n5, n6, n7, n8⟩, n1⟩ := hCf.out _ HI1.out
        go_wp2
        go_ret
        exact ⟨ret_bool HF.out.symm, hbl.out _ HI1.out⟩
      case pos =>
      have hvb : (f.l.v == 0) = true := by simpa using hv
      have HF : Hid (termsB f = (b1 && (b2 && b3))) := by show _ = _; rw [HF1.out, decide_eq_true hv]; rfl
      clear HF1 hv
      cases b1 with
      | false =>
        clear hc3 hc4
        go_enter Tryz.func80, Tryz.ntmps80
        go_upto_region 1 with fail
        try simp only [hR]
        rw [show _ = W0 from HW0.out]
        have hc := hc1
        go_wp2_with fail
        refine hc.mono ?_
        rintro e W1 ⟨rfl, hI1⟩
        have HI1 := hidR hI1
        clear hc hI1 hc1
        clear n0 n1 n2 n3 n4 n5 n6 n7 n8
        obtain ⟨⟨n0, n2, n3, n4, n5, n6, n7, n8⟩, n1⟩ := hCf.out _ HI1.out
        go_wp2_with fail
        refine (hc2 _).mono ?_
        rintro e W9 ⟨rfl, rfl⟩
        go_wp2
        go_ret
        exact ⟨ret_bool HF.out.symm, hbl.out _ HI1.out⟩
      | true =>
        cases b2 with
        | false =>
          clear hc4
          go_enter Tryz.func80, Tryz.ntmps80
          go_upto_region 1 with fail
          try simp only [hR]
          rw [show _ = W0 from HW0.out]
          have hc := hc1
          go_wp2_with fail
          refine hc.mono ?_
          rintro e W1 ⟨rfl, hI1⟩
          have HI1 := hidR hI1
          clear hc hI1 hc1
          clear n0 n1 n2 n3 n4 n5 n6 n7 n8
          obtain ⟨⟨n0, n2, n3, n4, n5, n6, n7, n8⟩, n1⟩ := hCf.out _ HI1.out
          go_wp2_with fail
          refine (hc2 _).mono ?_
          rintro e W9 ⟨rfl, rfl⟩
          have hc := hc3 _ HI1.out
          go_wp2_with fail
          refine hc.mono ?_
          rintro e W2 ⟨rfl, hI2⟩
          have HI2 := hidR hI2
          clear hc hI2 hc3
          clear n0 n1 n2 n3 n4 n5 n6 n7 n8
          obtain ⟨⟨n0, n2, n3, n4, n5, n6, n7, n8⟩, n1⟩ := hCf.out _ HI2.out
          go_wp2
          go_ret
          exact ⟨ret_bool HF.out.symm, hbl.out _ HI2.out⟩
        | true =>
          go_enter Tryz.func80, Tryz.ntmps80
          go_upto_region 1 with fail
          try simp only [hR]
          rw [show _ = W0 from HW0.out]
          have hc := hc1
          go_wp2_with fail
          refine hc.mono ?_
          rintro e W1 ⟨rfl, hI1⟩
          have HI1 := hidR hI1
          clear hc hI1 hc1
          clear n0 n1 n2 n3 n4 n5 n6 n7 n8
          obtain ⟨⟨n0, n2, n3, n4, n5, n6, n7, n8⟩, n1⟩ := hCf.out _ HI1.out
          go_wp2_with fail
          refine (hc2 _).mono ?_
          rintro e W9 ⟨rfl, rfl⟩
          have hc := hc3 _ HI1.out
          go_wp2_with fail
          refine hc.mono ?_
          rintro e W2 ⟨rfl, hI2⟩
          have HI2 := hidR hI2
          clear hc hI2 hc3
          clear n0 n1 n2 n3 n4 n5 n6 n7 n8
          obtain ⟨⟨n0, n2, n3, n4, n5, n6, n7, n8⟩, n1⟩ := hCf.out _ HI2.out
          have hc := hc4 _ HI2.out
          go_wp2_with fail
          refine hc.mono ?_
          rintro e W3 ⟨rfl, hI3⟩
          have HI3 := hidR hI3
          clear hc hI3 hc4
          clear n0 n1 n2 n3 n4 n5 n6 n7 n8
          obtain ⟨⟨n0, n2, n3, n4, n5, n6, n7, n8⟩, n1⟩ := hCf.out _ HI3.out
          go_wp2
          go_ret
          exact ⟨ret_bool HF.out.symm, hbl.out _ HI3.out⟩
