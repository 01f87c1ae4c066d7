import Derived.Test.YthkinkcpfcpehaaGreatDoorFU
import Derived.Test.YthkinkcpfcpehaaGreatDoorFG
namespace Go.Proofs.YthkinkcpfcpehaaGreatDoor
set_option maxRecDepth 100000
set_option maxHeartbeats 8000000
section
open Go.RowKit
theorem tnotso_any {p : T → Bool} {w W : World} {l : List T} (hg : SoP 117 p w l) (hb : Below w.heap.size w W) {C : Nat} (hC : W.heap[C]? = some (.cells #[.func (.func 117) #[] #[]] 119 (0, 0))) {a : T} (ha : a ∈ l) {sa : Value} (hs : ArgsAt W sa a.args) :
    Calls Tryz.prog 119 #[tval a sa, .pointer (some ⟨C, 0, none⟩)] W fun e w' => e = .returned (.bool (!p a)) ∧ Below W.heap.size W w' := by
  have hb0 := below_box W (.cells #[.int .i64 a.v, .string a.fn, sa] 24)
  have hsz := hb0.size
  have hc := hg a ha sa (W.alloc (.cells #[.int .i64 a.v, .string a.fn, sa] 24)) (hb.trans (hb0.mono hb.size)) (hs.keep hb0 (Nat.le_refl _))
  have x0 : W.cell? ⟨C, 0, none⟩ = some (.func (.func 117) #[] #[]) := cell_storeR (vs := [_]) hC rfl
  have hCl : C < W.heap.size := (Array.getElem?_eq_some_iff.1 hC).1
  obtain ⟨b, hpb⟩ : ∃ b, p a = b := ⟨_, rfl⟩
  rw [hpb] at hc ⊢
  have H0 := hidR hb0
  clear hg hb hC hs hb0 hpb
  go_enter Tryz.func119, Tryz.ntmps119
  go_wp2_with fail
  refine hc.mono ?_
  rintro e W1 ⟨rfl, h1⟩
  have H1 := hidR h1
  clear hc h1
  go_wp2
  go_ret
  exact ⟨rfl, H0.out.trans (H1.out.mono hsz)⟩
theorem tindex_any {p : T → Bool} {w W : World} {l : List T} (hg : SoP 117 p w l) (hb : Below w.heap.size w W) {C : Nat} (hC : W.heap[C]? = some (.cells #[.func (.func 117) #[] #[]] 119 (0, 0))) {sl : Value} (hs : ArgsAt W sl l) :
    Calls Tryz.prog 157 #[sl, .func (.func 119) #[] #[.pointer (some ⟨C, 0, none⟩)]] W fun e w' => (∃ r : Int, e = .returned (.int .i64 r) ∧ decide (0 ≤ r) = !l.all p) ∧ Below W.heap.size W w' := by
  obtain ⟨a, c, rfl, hlc, hcm⟩ := hs.slice
  have HS := hidR hs
  have HG := hidR hg
  have HB := hidR hb
  have HC := hidR hC
  have hnl : l.length ≤ 9223372036854775807 := by omega
  obtain ⟨n, hn⟩ : ∃ n, l.length = n := ⟨_, rfl⟩
  clear hs hg hb hC
  rw [hn]
  rw [hn] at HS hlc hnl
  go_enter Tryz.func157, Tryz.ntmps157
  go_wp2
  go_loopw [8] (fun vi wr => ∃ i : Nat, vi = .int .i64 i ∧ i ≤ n ∧ Hid (Below W.heap.size W wr ∧ (l.take i).all p = true)) (fun vi _ => n - (intOf vi).toNat)
  case atStart => exact ⟨0, rfl, Nat.zero_le _, Below.refl _ _, rfl⟩
  case round =>
    obtain ⟨i, rfl, hi, HI⟩ := hrel
    by_cases hlt : i < n
    · have hil : i < l.length := by omega
      have hsr := HS.out.keep HI.out.1 (Nat.le_refl _)
      obtain ⟨b, o, s, rfl, hlt2, y0, y1, y2, hss⟩ := hsr.nth hil
      have hc := tnotso_any HG.out (HB.out.trans (HI.out.1.mono HB.out.size)) ((HI.out.1.block C (Array.getElem?_eq_some_iff.1 HC.out).1).trans HC.out) (List.getElem_mem hil) hss
      have HT : Hid ((l.take (i + 1)).all p = p l[i]) := by
        show _ = _
        rw [List.take_succ_eq_append_getElem hil, List.all_append, HI.out.2]
        simp
      have HL : Hid (p l[i] = false → l.all p = false) := fun h => by
        rw [Bool.eq_false_iff]
        intro h2
        have := List.all_eq_true.1 h2 _ (List.getElem_mem hil)
        rw [h] at this
        cases this
      obtain ⟨pb, hpb⟩ : ∃ x, p l[i] = x := ⟨_, rfl⟩
      rw [hpb] at hc HT HL
      generalize l[i] = t at y0 y1 y2 hc
      clear hss hsr hlt2 hpb
      cases pb with
      | false =>
        have HL2 : Hid (l.all p = false) := HL.out rfl
        clear HL
        go_wp2_with fail
        refine hc.mono ?_
        rintro e W2 ⟨rfl, h2⟩
        have H2 := hidR h2
        clear hc h2
        go_wp2
        go_ret
        exact ⟨⟨i, rfl, by rw [HL2.out]; simp⟩, HI.out.1.trans (H2.out.mono HI.out.1.size)⟩
      | true =>
        go_wp2_with fail
        refine hc.mono ?_
        rintro e W2 ⟨rfl, h2⟩
        have HN : Hid (Below W.heap.size W W2 ∧ (l.take (i + 1)).all p = true) := ⟨HI.out.1.trans (h2.mono HI.out.1.size), HT.out⟩
        clear hc h2
        go_wp2
        go_roundw
        case rel => exact ⟨i + 1, by go_num, by omega, HN.out⟩
        case measure => simp [intOf]; omega
    · have hin : i = n := by omega
      subst hin
      have HF : Hid (l.all p = true) := by
        have := HI.out.2
        rw [← hn, List.take_length] at this
        exact this
      go_wp2
      go_ret
      exact ⟨⟨-1, rfl, by rw [HF.out]; rfl⟩, HI.out.1⟩
theorem tcontains_any {p : T → Bool} {w W : World} {l : List T} (hg : SoP 117 p w l) (hb : Below w.heap.size w W) {C : Nat} (hC : W.heap[C]? = some (.cells #[.func (.func 117) #[] #[]] 119 (0, 0))) {sl : Value} (hs : ArgsAt W sl l) :
    Calls Tryz.prog 118 #[sl, .func (.func 119) #[] #[.pointer (some ⟨C, 0, none⟩)]] W fun e w' => e = .returned (.bool (!l.all p)) ∧ Below W.heap.size W w' := by
  have hc := tindex_any hg hb hC hs
  clear hg hb hC hs
  go_enter Tryz.func118, Tryz.ntmps118
  go_wp2_with fail
  refine hc.mono ?_
  rintro e W2 ⟨⟨r, rfl, hr⟩, h2⟩
  have H2 := hidR h2
  have HR := hidR hr
  clear hc h2 hr
  go_wp2
  go_ret
  exact ⟨ret_bool HR.out, H2.out⟩
theorem tall_any {p : T → Bool} {w : World} {l : List T} (hg : SoP 117 p w l) {sl : Value} (hs : ArgsAt w sl l) :
    Calls Tryz.prog 81 #[sl, .func (.func 117) #[] #[]] w fun e w' => e = .returned (.bool (l.all p)) ∧ Below w.heap.size w w' := by
  have hb0 := below_box w (.cells #[.func (.func 117) #[] #[]] 119)
  have hz := (MapKept.heap_alloc w (.cells #[.func (.func 117) #[] #[]] 119)).1
  have hc := tcontains_any (p := p) hg hb0 hz (hs.keep hb0 (Nat.le_refl _))
  have hsz := hb0.size
  have H0 := hidR hb0
  obtain ⟨a, c, rfl, _, _⟩ := hs.slice
  obtain ⟨b, hpb⟩ : ∃ b, l.all p = b := ⟨_, rfl⟩
  rw [hpb] at hc ⊢
  clear hg hb0 hz hs hpb
  go_enter Tryz.func81, Tryz.ntmps81
  go_wp2_with fail
  refine hc.mono ?_
  rintro e W2 ⟨rfl, h2⟩
  have H2 := hidR h2
  clear hc h2
  go_wp2
  go_ret
  exact ⟨by cases b <;> rfl, H0.out.trans (H2.out.mono hsz)⟩
/-- Names that are not great. -/
def T.nsm : T → Prop
  | .mk _ fn ts => fn.size ≤ 2097152 ∧ nsms ts
where nsms : List T → Prop
  | [] => True
  | a :: r => a.nsm ∧ nsms r
theorem nsms_mem : ∀ {l : List T}, T.nsm.nsms l → ∀ a ∈ l, a.nsm
  | b :: r, h, a, ha => by
    rw [T.nsm.nsms] at h
    rcases List.mem_cons.1 ha with rfl | ha
    · exact h.1
    · exact nsms_mem h.2 a ha
theorem T.nsm_fn {t : T} (h : t.nsm) : t.fn.size ≤ 2097152 := by cases t; rw [T.nsm] at h; exact h.1
theorem T.nsm_args {t : T} (h : t.nsm) : ∀ a ∈ t.args, a.nsm := by cases t; rw [T.nsm] at h; exact nsms_mem h.2
/-- Is it a variable? -/
def vB (t : T) : Bool := decide (t.args.length = 0) && Lx.vrB t.fn.data.toList
/-- Is it a term of formulas? -/
def trB : T → Bool
  | .mk v fn ts => decide (v = 0) && ((decide (ts.length = 0) && Lx.vrB fn.data.toList) || (Lx.nmB fn.data.toList && trs ts))
where trs : List T → Bool
  | [] => true
  | a :: r => trB a && trs r
theorem trs_all (l : List T) : l.all trB = trB.trs l := by
  induction l with
  | nil => rfl
  | cons a r ih => rw [List.all_cons, ih, trB.trs]
theorem trB_eq (t : T) : trB t = (decide (t.v = 0) && (vB t || (Lx.nmB t.fn.data.toList && t.args.all trB))) := by cases t; rw [trs_all, trB]; rfl
theorem isVariable_any {t : T} (hn : t.fn.size ≤ 2097152) {sl : Value} {w : World} (hs : ArgsAt w sl t.args) : Calls Tryz.prog 113 #[tval t sl] w fun e w' => e = .returned (.bool (vB t)) ∧ Below w.heap.size w w' := by
  obtain ⟨a, c, rfl, _, _⟩ := hs.slice
  have hc : ∀ W, Calls Tryz.prog 115 #[.string t.fn] W fun e w' => e = .returned (.bool (Lx.vrB t.fn.data.toList)) ∧ w' = W := fun W => Lx.isVar_any _ W (by omega)
  have HE : Hid (vB t = (decide (t.args.length = 0) && Lx.vrB t.fn.data.toList)) := rfl
  obtain ⟨n, hnn⟩ : ∃ n, t.args.length = n := ⟨_, rfl⟩
  obtain ⟨b, hb⟩ : ∃ b, Lx.vrB t.fn.data.toList = b := ⟨_, rfl⟩
  rw [hnn] at HE ⊢
  rw [hb] at HE hc
  clear hs hnn hb hn
  by_cases h0 : n = 0
  · subst h0
    have HF : Hid (vB t = b) := by show _ = _; rw [HE.out]; rfl
    go_enter Tryz.func113, Tryz.ntmps113
    go_wp2_with fail
    refine (hc _).mono ?_
    rintro e W2 ⟨rfl, rfl⟩
    go_wp2
    go_ret
    exact ⟨ret_bool HF.out.symm, below_box w _⟩
  · have h1 : ((n : Int) == 0) = false := by simp; omega
    have HF : Hid (vB t = false) := by show _ = _; rw [HE.out, decide_eq_false h0]; rfl
    go_enter Tryz.func113, Tryz.ntmps113
    go_wp2
    go_ret
    exact ⟨ret_bool HF.out.symm, below_box w _⟩
theorem isTerm_any (t : T) : t.nsm → ∀ (sl : Value) (w : World), ArgsAt w sl t.args → Calls Tryz.prog 117 #[tval t sl] w fun e w' => e = .returned (.bool (trB t)) ∧ Below w.heap.size w w' := by
  refine T.ind (P := fun t => t.nsm → ∀ (sl : Value) (w : World), ArgsAt w sl t.args → Calls Tryz.prog 117 #[tval t sl] w fun e w' => e = .returned (.bool (trB t)) ∧ Below w.heap.size w w') (fun t ih => ?_) t
  intro hnm sl w hs
  have hb0 := below_box w (tbox t sl)
  have hs0 := hb0.size
  have hv := isVariable_any (T.nsm_fn hnm) (hs.keep hb0 (Nat.le_refl _))
  have hq : ∀ W, Calls Tryz.prog 116 #[.string t.fn] W fun e w' => e = .returned (.bool (Lx.nmB t.fn.data.toList)) ∧ w' = W := fun W => Lx.isName_any _ W (by have := T.nsm_fn hnm; omega)
  have hal : ∀ W, Below w.heap.size w W → Calls Tryz.prog 81 #[sl, .func (.func 117) #[] #[]] W fun e w' => e = .returned (.bool (t.args.all trB)) ∧ Below W.heap.size W w' := fun W hW => tall_any (p := trB) (fun a ha sa X _ hsa => ih a ha (T.nsm_args hnm a ha) sa X hsa) (hs.keep hW (Nat.le_refl _))
  have HE := hidR (trB_eq t)
  obtain ⟨⟨_, _, c2⟩, hz⟩ := And.intro (tbox_cells w t sl) (MapKept.heap_alloc w (tbox t sl)).1
  obtain ⟨W0, hW0⟩ : ∃ X, w.alloc (tbox t sl) = X := ⟨_, rfl⟩
  obtain ⟨R, hR⟩ : ∃ R, w.heap.size = R := ⟨_, rfl⟩
  rw [hW0] at hb0 hs0 hv c2 hz
  have HZ := hidR hz
  have HB := hidR hb0
  have HS := hidR hs0
  have HAL := hidR hal
  obtain ⟨a, c, rfl, _, _⟩ := hs.slice
  obtain ⟨b1, hb1⟩ : ∃ b, vB t = b := ⟨_, rfl⟩
  obtain ⟨b2, hb2⟩ : ∃ b, Lx.nmB t.fn.data.toList = b := ⟨_, rfl⟩
  obtain ⟨b3, hb3⟩ : ∃ b, t.args.all trB = b := ⟨_, rfl⟩
  rw [hb1, hb2, hb3] at HE
  rw [hb1] at hv
  rw [hb2] at hq
  rw [hb3] at HAL
  obtain ⟨n, hn⟩ : ∃ n, t.args.length = n := ⟨_, rfl⟩
  rw [hn] at hv HAL hW0 HZ ⊢
  rw [hR] at HZ
  have hcell : Hid (∀ X, Below W0.heap.size W0 X → X.cell? ⟨R, 0, none⟩ = some (.int .i64 t.v) ∧ X.cell? ⟨R, 1, none⟩ = some (.string t.fn) ∧ X.cell? ⟨R, 2, none⟩ = some (.slice a n c)) := fun X hX => by
    have h := (hX.block R (Array.getElem?_eq_some_iff.1 HZ.out).1).trans HZ.out
    exact ⟨cell_storeR (vs := [_, _, _]) h rfl, cell_storeR (vs := [_, _, _]) h rfl, cell_storeR (vs := [_, _, _]) h rfl⟩
  obtain ⟨z0, z1, z2⟩ := hcell.out W0 (Below.refl _ _)
  clear hb0 hs0 hal c2 hz hs hnm ih hb1 hb2 hb3 hn HZ
  obtain ⟨v, hvv⟩ : ∃ v, t.v = v := ⟨_, rfl⟩
  rw [hvv] at HE hcell z0
  simp only [tval, tbox] at hv hW0 ⊢
  rw [hvv] at hv hW0 ⊢
  clear hvv
  by_cases hv0 : v = 0
  case neg =>
    have h1 : (v == 0) = false := by simpa using hv0
    have HF : Hid (trB t = false) := by show _ = _; rw [HE.out, decide_eq_false hv0]; rfl
    clear hv hq HAL
    go_enter Tryz.func117, Tryz.ntmps117
    go_upto_region 1 with fail
    try simp only [hR]
    try rw [hW0]
    clear hW0
    go_wp2
    go_ret
    exact ⟨ret_bool HF.out.symm, HB.out⟩
  case pos =>
  subst hv0
  cases b1 with
  | true =>
    have HF : Hid (trB t = true) := by show _ = _; rw [HE.out, decide_eq_true rfl]; rfl
    clear hq HAL
    go_enter Tryz.func117, Tryz.ntmps117
    go_upto_region 1 with fail
    try simp only [hR]
    try rw [hW0]
    clear hW0
    go_wp2_with fail
    refine hv.mono ?_
    rintro e W2 ⟨rfl, h2⟩
    have H2 := hidR h2
    clear hv h2
    go_wp2
    go_ret
    exact ⟨ret_bool HF.out.symm, HB.out.trans (H2.out.mono HS.out)⟩
  | false =>
    cases b2 with
    | false =>
      have HF : Hid (trB t = false) := by show _ = _; rw [HE.out, decide_eq_true rfl]; rfl
      clear HAL
      go_enter Tryz.func117, Tryz.ntmps117
      go_upto_region 1 with fail
      try simp only [hR]
      try rw [hW0]
      clear hW0
      go_wp2_with fail
      refine hv.mono ?_
      rintro e W2 ⟨rfl, h2⟩
      have H2 := hidR h2
      obtain ⟨y0, y1, y2⟩ := hcell.out W2 h2
      clear hv h2
      go_wp2_with fail
      refine (hq _).mono ?_
      rintro e W3 ⟨rfl, rfl⟩
      go_wp2
      go_ret
      exact ⟨ret_bool HF.out.symm, HB.out.trans (H2.out.mono HS.out)⟩
    | true =>
      have HF : Hid (trB t = b3) := by show _ = _; rw [HE.out, decide_eq_true rfl]; rfl
      go_enter Tryz.func117, Tryz.ntmps117
      go_upto_region 1 with fail
      try simp only [hR]
      try rw [hW0]
      clear hW0
      go_wp2_with fail
      refine hv.mono ?_
      rintro e W2 ⟨rfl, h2⟩
      have H2 := hidR h2
      have HW2 : Hid (Below w.heap.size w W2) := HB.out.trans (h2.mono HS.out)
      obtain ⟨y0, y1, y2⟩ := hcell.out W2 h2
      clear hv h2
      go_wp2_with fail
      refine (hq _).mono ?_
      rintro e W3 ⟨rfl, rfl⟩
      have hal := HAL.out W3 HW2.out
      go_wp2_with fail
      refine hal.mono ?_
      rintro e W4 ⟨rfl, h4⟩
      have H4 := hidR h4
      clear hal h4
      go_wp2
      go_ret
      exact ⟨ret_bool HF.out.symm, HW2.out.trans (H4.out.mono HW2.out.size)⟩
end
section
open Go.RowKit Go.Maps
/-- All variables are bound. -/
def clT (q : ByteArray → Int) : T → Prop
  | .mk v fn ts => (vB (.mk v fn ts) = true → 0 < q fn) ∧ clTs ts
where clTs : List T → Prop
  | [] => True
  | a :: r => clT q a ∧ clTs r
theorem clTs_mem {q : ByteArray → Int} : ∀ {l : List T}, clT.clTs q l → ∀ a ∈ l, clT q a
  | b :: r, h, a, ha => by
    rw [clT.clTs] at h
    rcases List.mem_cons.1 ha with rfl | ha
    · exact h.1
    · exact clTs_mem h.2 a ha
theorem clT_var {q : ByteArray → Int} {t : T} (h : clT q t) : vB t = true → 0 < q t.fn := by cases t; rw [clT] at h; exact h.1
theorem clT_args {q : ByteArray → Int} {t : T} (h : clT q t) : ∀ a ∈ t.args, clT q a := by cases t; rw [clT] at h; exact clTs_mem h.2
/-- What meeting these terms does. -/
def MTc (mb mm : Nat) (f : ByteArray → Option Int) (n : Nat) (l : List T) : Prop := (∀ a ∈ l, clT (fun s => (f s).getD 0) a) → (∀ a ∈ l, a.nsm) → l.length ≤ 9223372036854775807 → ∀ (w : World) (sl : Value), Nm w mb f n → ArgsAt w sl l → Calls Tryz.prog 84 #[.agg #[.map (some mb), .map (some mm)], sl] w fun e w' => e = .returned (.tuple #[]) ∧ Below w.heap.size w w'
theorem meet_step {mb mm n : Nat} {f : ByteArray → Option Int} {l : List T} (ih : ∀ a ∈ l, MTc mb mm f n a.args) : MTc mb mm f n l := by
  intro hcl hns hlm w sl hf ha
  have hb0 := below_box w (.cells #[.map (some mb), .map (some mm)] 52)
  have hz0 := (MapKept.heap_alloc w (.cells #[.map (some mb), .map (some mm)] 52)).1
  obtain ⟨sa, sc, rfl, hsc, hsm⟩ := ha.slice
  have HB : Hid (∀ X, Below w.heap.size w X → Nm X mb f n ∧ ArgsAt X (.slice sa l.length sc) l) := fun X hX => ⟨hf.same (hX.block mb hf.lt), ha.keep hX (Nat.le_refl _)⟩
  obtain ⟨W0, hW0⟩ : ∃ X : World, w.alloc (.cells #[.map (some mb), .map (some mm)] 52) = X := ⟨_, rfl⟩
  obtain ⟨R, hR⟩ : ∃ R, w.heap.size = R := ⟨_, rfl⟩
  rw [hW0] at hb0 hz0
  rw [hR] at hz0
  obtain ⟨N, hN⟩ : ∃ N, l.length = N := ⟨_, rfl⟩
  have HN := hidR hN
  rw [hN] at hsc HB hlm ⊢
  have HI := hidR ih
  have HC := hidR (And.intro hcl hns)
  have H0 := hidR (And.intro hb0 hz0)
  have HW0 := hidR hW0
  have HR := hidR hR
  clear hf ha ih hcl hns hb0 hz0 hW0 hN
  go_enter Tryz.func84, Tryz.ntmps84
  go_upto_region 1 with fail
  try simp only [hR]
  rw [show _ = W0 from HW0.out]
  clear HW0 hR
  go_wp2
  go_loopw [5, 8] (fun v5 vi wr => ∃ i : Nat, vi = .int .i64 i ∧ i ≤ N ∧ Hid (Below W0.heap.size W0 wr)) (fun v5 vi _ => N - (intOf vi).toNat)
  case atStart => exact ⟨0, rfl, Nat.zero_le _, Below.refl _ _⟩
  case round =>
    obtain ⟨i, rfl, hi, HW⟩ := hrel
    by_cases hlt : i < N
    · have hil : i < l.length := by rw [HN.out]; exact hlt
      have hbw : Below w.heap.size w wr := H0.out.1.trans (HW.out.mono H0.out.1.size)
      obtain ⟨hnm, has⟩ := HB.out wr hbw
      rw [← HN.out] at has
      obtain ⟨b, o, s, rfl, hbl, y0, y1, y2, hss⟩ := has.nth hil
      obtain ⟨a1, c1, rfl, hac, ham⟩ := hss.slice
      have hbG := below_box wr (tbox l[i] (.slice a1 l[i].args.length c1))
      have hzG := (MapKept.heap_alloc wr (tbox l[i] (.slice a1 l[i].args.length c1))).1
      obtain ⟨G, hG⟩ : ∃ G, wr.heap.size = G := ⟨_, rfl⟩
      obtain ⟨X1, hX1⟩ : ∃ X : World, wr.alloc (tbox l[i] (.slice a1 l[i].args.length c1)) = X := ⟨_, rfl⟩
      have hs1 : X1.heap.size = G + 1 := by rw [← hX1, World.size_alloc, hG]
      rw [hX1] at hbG hzG
      rw [hG] at hzG
      have hmem := List.getElem_mem hil
      have hv := isVariable_any (T.nsm_fn (HC.out.2 _ hmem)) (hss.keep hbG (Nat.le_refl _))
      have hzR : wr.heap[R]? = some (.cells #[.map (some mb), .map (some mm)] 52 (0, 0)) := (HW.out.block R (Array.getElem?_eq_some_iff.1 H0.out.2).1).trans H0.out.2
      have hRl := (Array.getElem?_eq_some_iff.1 hzR).1
      have HK : Hid (∀ X, Below X1.heap.size X1 X → (X.cell? ⟨R, 0, none⟩ = some (.map (some mb)) ∧ X.cell? ⟨R, 1, none⟩ = some (.map (some mm))) ∧ (X.cell? ⟨G, 0, none⟩ = some (.int .i64 l[i].v) ∧ X.cell? ⟨G, 1, none⟩ = some (.string l[i].fn) ∧ X.cell? ⟨G, 2, none⟩ = some (.slice a1 l[i].args.length c1)) ∧ Nm X mb f n ∧ Below w.heap.size w X ∧ Below W0.heap.size W0 X ∧ Calls Tryz.prog 84 #[.agg #[.map (some mb), .map (some mm)], .slice a1 l[i].args.length c1] X fun e w' => e = .returned (.tuple #[]) ∧ Below X.heap.size X w') := fun X hX => by
        have hbX : Below wr.heap.size wr X := hbG.trans (hX.mono hbG.size)
        have h1 := (hbX.block R hRl).trans hzR
        have h2 := (hX.block G (by omega)).trans hzG
        exact ⟨⟨cell_store (vs := [_, _]) h1 rfl, cell_store (vs := [_, _]) h1 rfl⟩, ⟨cell_storeR (vs := [_, _, _]) h2 rfl, cell_storeR (vs := [_, _, _]) h2 rfl, cell_storeR (vs := [_, _, _]) h2 rfl⟩, hnm.same (hbX.block mb hnm.lt), hbw.trans (hbX.mono hbw.size), HW.out.trans (hbX.mono HW.out.size), HI.out l[i] hmem (clT_args (HC.out.1 _ hmem)) (T.nsm_args (HC.out.2 _ hmem)) (by omega) X _ (hnm.same (hbX.block mb hnm.lt)) (hss.keep hbX (Nat.le_refl _))⟩
      have HV : Hid (vB l[i] = true → 0 < (f l[i].fn).getD 0) := clT_var (HC.out.1 _ hmem)
      have HFS : Hid (l[i].fn.size ≤ maxLen) := by have := T.nsm_fn (HC.out.2 _ hmem); show _ ≤ _; unfold maxLen; omega
      have HX1 := hidR hX1
      obtain ⟨b1, hb1⟩ : ∃ x, vB l[i] = x := ⟨_, rfl⟩
      rw [hb1] at hv HV
      generalize l[i] = u at y0 y1 y2 hv HK HV HFS HX1
      obtain ⟨⟨r0, r1⟩, ⟨g0, g1, g2⟩, -⟩ := HK.out X1 (Below.refl _ _)
      clear hss has hnm hbG hzG hX1 hbl hbw hmem hb1 hzR hRl hs1
      go_upto_region 4 with fail
      try simp only [hG]
      rw [show _ = X1 from HX1.out]
      clear HX1 hG
      go_wp2_with fail
      refine hv.mono ?_
      rintro e X2 ⟨rfl, hb2⟩
      have HX2 := hidR hb2
      clear hv hb2 r0 r1 g0 g1 g2
      obtain ⟨⟨r0, r1⟩, ⟨g0, g1, g2⟩, hn2, -, -, hrec⟩ := HK.out X2 HX2.out
      cases b1 with
      | true =>
        have hm := meet_bound (mm := mm) hn2 u.fn HFS.out (HV.out rfl)
        clear hn2 hrec
        go_wp2_with fail
        refine hm.mono ?_
        rintro e X3 ⟨rfl, hb3⟩
        have HX3 := hidR (HX2.out.trans (hb3.mono HX2.out.size))
        clear hm hb3 r0 r1 g0 g1 g2
        obtain ⟨⟨r0, r1⟩, ⟨g0, g1, g2⟩, -, -, -, hrec⟩ := HK.out X3 HX3.out
        go_wp2_with fail
        refine hrec.mono ?_
        rintro e X4 ⟨rfl, hb4⟩
        have HM : Hid (Below W0.heap.size W0 X4) := (HK.out X4 (HX3.out.trans (hb4.mono HX3.out.size))).2.2.2.2.1
        clear hrec hb4 r0 r1 g0 g1 g2
        go_wp2
        go_roundw
        case rel => exact ⟨i + 1, by go_num, by omega, HM.out⟩
        case measure => simp [intOf]; omega
      | false =>
        clear hn2
        go_wp2_with fail
        refine hrec.mono ?_
        rintro e X4 ⟨rfl, hb4⟩
        have HM : Hid (Below W0.heap.size W0 X4) := (HK.out X4 (HX2.out.trans (hb4.mono HX2.out.size))).2.2.2.2.1
        clear hrec hb4 r0 r1 g0 g1 g2
        go_wp2
        go_roundw
        case rel => exact ⟨i + 1, by go_num, by omega, HM.out⟩
        case measure => simp [intOf]; omega
    · have hin : i = N := by omega
      subst hin
      have HF : Hid (Below w.heap.size w wr) := H0.out.1.trans (HW.out.mono H0.out.1.size)
      go_wp2
      refine bodyPost_end (results_none rfl _ _ _) rfl ?_
      exact ⟨rfl, HF.out⟩
theorem meetArgs {mb mm n : Nat} {f : ByteArray → Option Int} (t : T) : MTc mb mm f n t.args := by
  refine T.ind (P := fun t => MTc mb mm f n t.args) (fun t ih => ?_) t
  exact meet_step ih
theorem meetTerms_any {mb mm n : Nat} {f : ByteArray → Option Int} (l : List T) : MTc mb mm f n l := meet_step fun a _ => meetArgs a
end
section
open Go.RowKit
/-- What a test of formulas tells, in any world that grew from here. -/
def SoF (g : Nat) (P : Nat → Prop) (p : Fm → Bool) (w : World) (l : List Fm) : Prop :=
  ∀ a ∈ l, ∀ (sl sr sk : Value) (W : World), Below w.heap.size w W → FmP P W a sl sr sk → Calls Tryz.prog g #[fval a sl sr sk] W fun e w' => e = .returned (.bool (p a)) ∧ Below W.heap.size W w'
theorem gnotso_any {P : Nat → Prop} {p : Fm → Bool} {w W : World} {l : List Fm} (hg : SoF 41 P p w l) (hb : Below w.heap.size w W) {C : Nat} (hC : W.heap[C]? = some (.cells #[.func (.func 41) #[] #[]] 36 (0, 0))) {a : Fm} (ha : a ∈ l) {sl sr sk : Value} (hs : FmP P W a sl sr sk) :
    Calls Tryz.prog 102 #[fval a sl sr sk, .pointer (some ⟨C, 0, none⟩)] W fun e w' => e = .returned (.bool (!p a)) ∧ Below W.heap.size W w' := by
  have hb0 := below_box W (fbox a sl sr sk)
  have hsz := hb0.size
  have hc := hg a ha sl sr sk (W.alloc (fbox a sl sr sk)) (hb.trans (hb0.mono hb.size)) (hs.grow hb0)
  have x0 : W.cell? ⟨C, 0, none⟩ = some (.func (.func 41) #[] #[]) := cell_storeR (vs := [_]) hC rfl
  have hCl : C < W.heap.size := (Array.getElem?_eq_some_iff.1 hC).1
  obtain ⟨la, lc, rfl, _, _⟩ := hs.l.slice'
  obtain ⟨ra, rc, rfl, _, _⟩ := hs.r.slice'
  obtain ⟨ka, kc', rfl, _, _⟩ := hs.k.slice
  obtain ⟨b, hpb⟩ : ∃ b, p a = b := ⟨_, rfl⟩
  rw [hpb] at hc ⊢
  have H0 := hidR hb0
  clear hg hb hC hs hb0 hpb
  go_enter Tryz.func102, Tryz.ntmps102
  go_wp2_with fail
  refine hc.mono ?_
  rintro e W1 ⟨rfl, h1⟩
  have H1 := hidR h1
  clear hc h1
  go_wp2
  go_ret
  exact ⟨rfl, H0.out.trans (H1.out.mono hsz)⟩
theorem gindex_any {P : Nat → Prop} {p : Fm → Bool} {w W : World} {l : List Fm} (hg : SoF 41 P p w l) (hb : Below w.heap.size w W) {C : Nat} (hC : W.heap[C]? = some (.cells #[.func (.func 41) #[] #[]] 36 (0, 0))) {sk : Value} (hs : KidsP P W sk l) :
    Calls Tryz.prog 120 #[sk, .func (.func 102) #[] #[.pointer (some ⟨C, 0, none⟩)]] W fun e w' => (∃ r : Int, e = .returned (.int .i64 r) ∧ decide (0 ≤ r) = !l.all p) ∧ Below W.heap.size W w' := by
  obtain ⟨a, c, rfl, hlc, hcm⟩ := hs.slice
  have hcm' : c ≤ 9223372036854775807 := by unfold maxLen at hcm; omega
  have HS := hidR hs
  have HG := hidR hg
  have HB := hidR hb
  have HC := hidR hC
  have hnl : l.length ≤ 9223372036854775807 := by omega
  obtain ⟨n, hn⟩ : ∃ n, l.length = n := ⟨_, rfl⟩
  clear hs hg hcm hb hC
  rw [hn]
  rw [hn] at HS hlc hnl
  go_enter Tryz.func120, Tryz.ntmps120
  go_wp2
  go_loopw [8] (fun vi wr => ∃ i : Nat, vi = .int .i64 i ∧ i ≤ n ∧ Hid (Below W.heap.size W wr ∧ (l.take i).all p = true)) (fun vi _ => n - (intOf vi).toNat)
  case atStart => exact ⟨0, rfl, Nat.zero_le _, Below.refl _ _, rfl⟩
  case round =>
    obtain ⟨i, rfl, hi, HI⟩ := hrel
    by_cases hlt : i < n
    · have hil : i < l.length := by omega
      have hsr := HS.out.grow HI.out.1
      obtain ⟨b, o, sl, sr, sk, rfl, _, hlt2, ⟨y0, y1, ⟨y2, y3, y4⟩, ⟨y5, y6, y7⟩, y8⟩, hss⟩ := hsr.nth hil
      have hc := gnotso_any HG.out (HB.out.trans (HI.out.1.mono HB.out.size)) ((HI.out.1.block C (Array.getElem?_eq_some_iff.1 HC.out).1).trans HC.out) (List.getElem_mem hil) hss
      have HT : Hid ((l.take (i + 1)).all p = p l[i]) := by
        show _ = _
        rw [List.take_succ_eq_append_getElem hil, List.all_append, HI.out.2]
        simp
      have HL : Hid (p l[i] = false → l.all p = false) := fun h => by
        rw [Bool.eq_false_iff]
        intro h2
        have := List.all_eq_true.1 h2 _ (List.getElem_mem hil)
        rw [h] at this
        cases this
      obtain ⟨pb, hpb⟩ : ∃ x, p l[i] = x := ⟨_, rfl⟩
      rw [hpb] at hc HT HL
      generalize l[i] = t at y0 y1 y2 y3 y5 y6 hc
      clear hss hsr hlt2 hpb
      cases pb with
      | false =>
        have HL2 : Hid (l.all p = false) := HL.out rfl
        clear HL
        go_wp2_with fail
        refine hc.mono ?_
        rintro e W2 ⟨rfl, h2⟩
        have H2 := hidR h2
        clear hc h2
        go_wp2
        go_ret
        exact ⟨⟨i, rfl, by rw [HL2.out]; simp⟩, HI.out.1.trans (H2.out.mono HI.out.1.size)⟩
      | true =>
        go_wp2_with fail
        refine hc.mono ?_
        rintro e W2 ⟨rfl, h2⟩
        have HN : Hid (Below W.heap.size W W2 ∧ (l.take (i + 1)).all p = true) := ⟨HI.out.1.trans (h2.mono HI.out.1.size), HT.out⟩
        clear hc h2
        go_wp2
        go_roundw
        case rel => exact ⟨i + 1, by go_num, by omega, HN.out⟩
        case measure => simp [intOf]; omega
    · have hin : i = n := by omega
      subst hin
      have HF : Hid (l.all p = true) := by
        have := HI.out.2
        rw [← hn, List.take_length] at this
        exact this
      go_wp2
      go_ret
      exact ⟨⟨-1, rfl, by rw [HF.out]; rfl⟩, HI.out.1⟩
theorem gcontains_any {P : Nat → Prop} {p : Fm → Bool} {w W : World} {l : List Fm} (hg : SoF 41 P p w l) (hb : Below w.heap.size w W) {C : Nat} (hC : W.heap[C]? = some (.cells #[.func (.func 41) #[] #[]] 36 (0, 0))) {sk : Value} (hs : KidsP P W sk l) :
    Calls Tryz.prog 83 #[sk, .func (.func 102) #[] #[.pointer (some ⟨C, 0, none⟩)]] W fun e w' => e = .returned (.bool (!l.all p)) ∧ Below W.heap.size W w' := by
  have hc := gindex_any hg hb hC hs
  clear hg hb hC hs
  go_enter Tryz.func83, Tryz.ntmps83
  go_wp2_with fail
  refine hc.mono ?_
  rintro e W2 ⟨⟨r, rfl, hr⟩, h2⟩
  have H2 := hidR h2
  have HR := hidR hr
  clear hc h2 hr
  go_wp2
  go_ret
  exact ⟨ret_bool HR.out, H2.out⟩
theorem gall_any {P : Nat → Prop} {p : Fm → Bool} {w : World} {l : List Fm} (hg : SoF 41 P p w l) {sk : Value} (hs : KidsP P w sk l) :
    Calls Tryz.prog 62 #[sk, .func (.func 41) #[] #[]] w fun e w' => e = .returned (.bool (l.all p)) ∧ Below w.heap.size w w' := by
  have hb0 := below_box w (.cells #[.func (.func 41) #[] #[]] 36)
  have hz := (MapKept.heap_alloc w (.cells #[.func (.func 41) #[] #[]] 36)).1
  have hc := gcontains_any (p := p) hg hb0 hz (hs.grow hb0)
  have hsz := hb0.size
  have H0 := hidR hb0
  obtain ⟨a, c, rfl, _, _⟩ := hs.slice
  obtain ⟨b, hpb⟩ : ∃ b, l.all p = b := ⟨_, rfl⟩
  rw [hpb] at hc ⊢
  clear hg hb0 hz hs hpb
  go_enter Tryz.func62, Tryz.ntmps62
  go_wp2_with fail
  refine hc.mono ?_
  rintro e W2 ⟨rfl, h2⟩
  have H2 := hidR h2
  clear hc h2
  go_wp2
  go_ret
  exact ⟨by cases b <;> rfl, H0.out.trans (H2.out.mono hsz)⟩
/-- How many kids a kind has; -1: it is none. -/
def kidsN (k : Int) : Int := if k = 1 ∨ k = 9 ∨ k = 10 then 0 else if k = 2 ∨ k = 7 ∨ k = 8 then 1 else if k = 3 ∨ k = 4 ∨ k = 5 ∨ k = 6 then 2 else -1
theorem kidsOf_any (k : Int) (w : World) : Calls Tryz.prog 78 #[.int .i64 k] w fun e w' => e = .returned (.int .i64 (kidsN k)) ∧ w' = w := by
  by_cases h : k = 1 ∨ k = 2 ∨ k = 3 ∨ k = 4 ∨ k = 5 ∨ k = 6 ∨ k = 7 ∨ k = 8 ∨ k = 9 ∨ k = 10
  · rcases h with h | h | h | h | h | h | h | h | h | h <;> subst h <;>
      (go_enter Tryz.func78, Tryz.ntmps78; go_wp2; go_ret; exact ⟨rfl, rfl⟩)
  · have h1 : (k == 1) = false := by simp; omega
    have h2 : (k == 2) = false := by simp; omega
    have h3 : (k == 3) = false := by simp; omega
    have h4 : (k == 4) = false := by simp; omega
    have h5 : (k == 5) = false := by simp; omega
    have h6 : (k == 6) = false := by simp; omega
    have h7 : (k == 7) = false := by simp; omega
    have h8 : (k == 8) = false := by simp; omega
    have h9 : (k == 9) = false := by simp; omega
    have h10 : (k == 10) = false := by simp; omega
    have HF : Hid (kidsN k = -1) := by show _ = _; unfold kidsN; rw [if_neg (by omega), if_neg (by omega), if_neg (by omega)]
    clear h
    go_enter Tryz.func78, Tryz.ntmps78
    go_wp2
    go_ret
    exact ⟨ret_i64 HF.out.symm, rfl⟩
/-- Is it a quantifier? -/
def qB (f : Fm) : Bool := decide (f.k = 7) || decide (f.k = 8)
theorem isQuant_any {P : Nat → Prop} {f : Fm} {sl sr sk : Value} {w : World} (h : FmP P w f sl sr sk) : Calls Tryz.prog 72 #[fval f sl sr sk] w fun e w' => e = .returned (.bool (qB f)) ∧ Below w.heap.size w w' := by
  obtain ⟨la, lc, rfl, _, _⟩ := h.l.slice'
  obtain ⟨ra, rc, rfl, _, _⟩ := h.r.slice'
  obtain ⟨ka, kc', rfl, _, _⟩ := h.k.slice
  have hb0 := hidR (below_box w (fbox f (.slice la f.l.args.length lc) (.slice ra f.r.args.length rc) (.slice ka f.kids.length kc')))
  by_cases h7 : f.k = 7
  · have h1 : (f.k == 7) = true := by simpa using h7
    have HF : Hid (qB f = true) := by show _ = _; unfold qB; rw [decide_eq_true h7]; rfl
    clear h h7
    go_enter Tryz.func72, Tryz.ntmps72
    go_wp2
    go_ret
    exact ⟨ret_bool HF.out.symm, hb0.out⟩
  · have h1 : (f.k == 7) = false := by simpa using h7
    by_cases h8 : f.k = 8
    · have h2 : (f.k == 8) = true := by simpa using h8
      have HF : Hid (qB f = true) := by show _ = _; unfold qB; rw [decide_eq_true h8, Bool.or_true]
      clear h h7 h8
      go_enter Tryz.func72, Tryz.ntmps72
      go_wp2
      go_ret
      exact ⟨ret_bool HF.out.symm, hb0.out⟩
    · have h2 : (f.k == 8) = false := by simpa using h8
      have HF : Hid (qB f = false) := by show _ = _; unfold qB; rw [decide_eq_false h8, decide_eq_false h7]; rfl
      clear h h7 h8
      go_enter Tryz.func72, Tryz.ntmps72
      go_wp2
      go_ret
      exact ⟨ret_bool HF.out.symm, hb0.out⟩
/-- Has it a name, where it needs one? -/
def nameB (f : Fm) : Bool := if qB f = true then Lx.vrB f.nm.data.toList else decide (f.nm = e0)
theorem shapedName_any {P : Nat → Prop} {f : Fm} (hn : f.nm.size ≤ 2097152) {sl sr sk : Value} {w : World} (h : FmP P w f sl sr sk) : Calls Tryz.prog 79 #[fval f sl sr sk] w fun e w' => e = .returned (.bool (nameB f)) ∧ Below w.heap.size w w' := by
  have hb0 := below_box w (fbox f sl sr sk)
  have hs0 := hb0.size
  have hc := isQuant_any (h.grow hb0)
  have hv : ∀ W, Calls Tryz.prog 115 #[.string f.nm] W fun e w' => e = .returned (.bool (Lx.vrB f.nm.data.toList)) ∧ w' = W := fun W => Lx.isVar_any _ W (by omega)
  have hz := (MapKept.heap_alloc w (fbox f sl sr sk)).1
  obtain ⟨la, lc, rfl, _, _⟩ := h.l.slice'
  obtain ⟨ra, rc, rfl, _, _⟩ := h.r.slice'
  obtain ⟨ka, kc', rfl, _, _⟩ := h.k.slice
  have HE : Hid (nameB f = if qB f = true then Lx.vrB f.nm.data.toList else decide (f.nm = e0)) := rfl
  obtain ⟨b, hb⟩ : ∃ b, qB f = b := ⟨_, rfl⟩
  rw [hb] at hc HE
  obtain ⟨v, hvv⟩ : ∃ b, Lx.vrB f.nm.data.toList = b := ⟨_, rfl⟩
  rw [hvv] at hv HE
  have HZ := hidR hz
  have HB := hidR hb0
  clear h hz hb0 hn hb hvv
  cases b with
  | true =>
    go_enter Tryz.func79, Tryz.ntmps79
    go_wp2_with fail
    refine hc.mono ?_
    rintro e W2 ⟨rfl, h2⟩
    have H2 : Hid (Below w.heap.size w W2) := HB.out.trans (h2.mono hs0)
    have x1 : W2.cell? ⟨w.heap.size, 1, none⟩ = some (.string f.nm) := cell_storeR (vs := [_, _, _, _, _, _, _, _, _]) ((h2.block _ (Array.getElem?_eq_some_iff.1 HZ.out).1).trans HZ.out) rfl
    clear hc h2
    go_wp2_with fail
    refine (hv _).mono ?_
    rintro e W3 ⟨rfl, rfl⟩
    go_wp2
    go_ret
    exact ⟨ret_bool HE.out.symm, H2.out⟩
  | false =>
    by_cases hnm : f.nm = e0
    · have he : (f.nm.toList == (⟨#[]⟩ : ByteArray).toList) = true := by rw [show f.nm = (⟨#[]⟩ : ByteArray) from hnm]; exact beq_self_eq_true _
      have HI : Hid (f.nm.toList.isEmpty = true) := by show _ = _; rw [Lx.is_empty, hnm]; rfl
      have HF : Hid (nameB f = true) := by show _ = _; rw [HE.out, hnm]; rfl
      clear HE hnm
      go_enter Tryz.func79, Tryz.ntmps79
      go_wp2_with fail
      refine hc.mono ?_
      rintro e W2 ⟨rfl, h2⟩
      have H2 : Hid (Below w.heap.size w W2) := HB.out.trans (h2.mono hs0)
      have x1 : W2.cell? ⟨w.heap.size, 1, none⟩ = some (.string f.nm) := cell_storeR (vs := [_, _, _, _, _, _, _, _, _]) ((h2.block _ (Array.getElem?_eq_some_iff.1 HZ.out).1).trans HZ.out) rfl
      clear hc h2
      go_wp2
      go_ret
      exact ⟨ret_bool (HI.out.trans HF.out.symm), H2.out⟩
    · have he : (f.nm.toList == (⟨#[]⟩ : ByteArray).toList) = false := by rw [beq_eq_false_iff_ne]; exact fun e => hnm (ba_toList_inj.1 e)
      have HI : Hid (f.nm.toList.isEmpty = false) := by show _ = _; rw [Lx.is_empty]; exact decide_eq_false (fun h => hnm (ba_empty.1 h))
      have HF : Hid (nameB f = false) := by show _ = _; rw [HE.out, if_neg (by simp), decide_eq_false hnm]
      clear HE hnm
      go_enter Tryz.func79, Tryz.ntmps79
      go_wp2_with fail
      refine hc.mono ?_
      rintro e W2 ⟨rfl, h2⟩
      have H2 : Hid (Below w.heap.size w W2) := HB.out.trans (h2.mono hs0)
      have x1 : W2.cell? ⟨w.heap.size, 1, none⟩ = some (.string f.nm) := cell_storeR (vs := [_, _, _, _, _, _, _, _, _]) ((h2.block _ (Array.getElem?_eq_some_iff.1 HZ.out).1).trans HZ.out) rfl
      clear hc h2
      go_wp2
      go_ret
      exact ⟨ret_bool (HI.out.trans HF.out.symm), H2.out⟩
end
