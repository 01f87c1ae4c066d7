import Derived.Test.YthkinkcpfcpehaaGreatDoorGF
namespace Go.Proofs.YthkinkcpfcpehaaGreatDoor
set_option maxRecDepth 100000
set_option maxHeartbeats 8000000
open Go.RowKit
open Lx (Tk ofL)
def FormulaIH (E : Env) (c5 : Value) (n : Nat) : Prop :=
  ∀ (q : List Tk), q.length < n → ∀ (w : World) (bd : List (List UInt8)) (fr : List Tk) (kb : Nat) (fv : Value), PSt E w q bd fr kb fv c5 → bd.length + q.length ≤ E.N → Sg w → Calls Tryz.prog 94 #[.pointer (some ⟨E.B, 0, none⟩)] w (PieceP E w (PF bd q) bd fr fv c5)
/-- What stands first. -/
structure HeadF (l : List Tk) (m : List UInt8) : Prop where
  c : ∃ t r, l = t :: r
  s : signB l = ofL m
theorem head_form {l : List Tk} (hl : ∀ t ∈ l, TkOk t) : (headOf l = 1 → HeadF l [126]) ∧ (headOf l = 2 → HeadF l [33]) ∧ (headOf l = 3 → HeadF l [63]) ∧ (headOf l = 4 → HeadF l Lx.dTrue) ∧ (headOf l = 5 → HeadF l Lx.dFalse) ∧ (headOf l = 6 ↔ isM [40] l = true) ∧ headOf l ≤ 6 := by
  cases l with
  | nil => simp [headOf, isM]
  | cons t r =>
    have hs4 : t.k = 4 → signB (t :: r) = ofL t.t := fun h => by show (if t.k = 4 ∨ t.k = 3 then ofL t.t else _) = _; rw [if_pos (.inl h)]
    have hs3 : t.k = 3 → signB (t :: r) = ofL t.t := fun h => by show (if t.k = 4 ∨ t.k = 3 then ofL t.t else _) = _; rw [if_pos (.inr h)]
    by_cases h4 : t.k = 4
    · simp only [headOf, isM, h4, decide_true, Bool.true_and, decide_eq_true_eq]
      by_cases e1 : t.t = [126]
      · rw [if_pos e1]
        refine ⟨fun _ => ⟨⟨t, r, rfl⟩, by rw [hs4 h4, e1]⟩, ?_, ?_, ?_, ?_, ?_, ?_⟩ <;> simp [e1]
      · rw [if_neg e1]
        by_cases e2 : t.t = [33]
        · rw [if_pos e2]
          refine ⟨?_, fun _ => ⟨⟨t, r, rfl⟩, by rw [hs4 h4, e2]⟩, ?_, ?_, ?_, ?_, ?_⟩ <;> simp [e2]
        · rw [if_neg e2]
          by_cases e3 : t.t = [63]
          · rw [if_pos e3]
            refine ⟨?_, ?_, fun _ => ⟨⟨t, r, rfl⟩, by rw [hs4 h4, e3]⟩, ?_, ?_, ?_, ?_⟩ <;> simp [e3]
          · rw [if_neg e3]
            by_cases e4 : t.t = [40]
            · rw [if_pos e4]; simp [e4]
            · rw [if_neg e4]; simp [e4]
    · by_cases h3 : t.k = 3
      · simp only [headOf, if_neg h4, if_pos h3, isM]
        rcases (hl t (List.mem_cons_self ..)).dol h3 with hd | hd
        · rw [if_pos hd]
          refine ⟨?_, ?_, ?_, fun _ => ⟨⟨t, r, rfl⟩, by rw [hs3 h3, hd]⟩, ?_, ?_, ?_⟩ <;> simp [h4]
        · rw [if_neg (by rw [hd]; decide)]
          refine ⟨?_, ?_, ?_, ?_, fun _ => ⟨⟨t, r, rfl⟩, by rw [hs3 h3, hd]⟩, ?_, ?_⟩ <;> simp [h4]
      · simp [headOf, h4, h3, isM]
theorem sg_cell {W : World} (h : Sg W) {i : Nat} {v : Value} (hv : sgL[i]? = some v) : W.cell? ⟨0, i, none⟩ = some v := cell_store h hv
/-- A piece of a unary's tail is a piece behind the whole way. -/
theorem PieceP.from_ {E : Env} {w W : World} {PX PY : Pr Fm → Prop} {bd : List (List UInt8)} {fr : List Tk} {fv fv0 c5 : Value} (hs : Stay E w fv0 W fv) (hx : ∀ {x}, PX x → PY x) {e : Ending} {w' : World} (h : PieceP E W PX bd fr fv c5 e w') : PieceP E w PY bd fr fv0 c5 e w' := by
  rcases h with ⟨f, p, fr', q, kb', fv', h1, h2, h3, h4, h5⟩ | ⟨q, fv', h1, h2, h3, h4⟩
  · exact .inl ⟨f, p, fr', q, kb', fv', hx h1, h2, h3.low hs.size, h4, hs.trans h5⟩
  · exact .inr ⟨q, fv', hx h1, h2, h3, hs.trans h4⟩
/-- What has no sign of a kind ahead. -/
theorem unary_plain {E : Env} {c5 : Value} {l : List Tk} (IHF : FormulaIH E c5 l.length) (hn0 : 1 ≤ E.n0) {w : World} {bd : List (List UInt8)} {fr : List Tk} {kb : Nat} {fv : Value} (h : PSt E w l bd fr kb fv c5) (hbd : bd.length + l.length ≤ E.N) (hsg : Sg w) (hh : headOf l = 0 ∨ headOf l = 6) :
    Calls Tryz.prog 130 #[.pointer (some ⟨E.B, 0, none⟩)] w (PieceP E w (PU bd l) bd fr fv c5) := by
  have hs := sign_any h.bx
  obtain ⟨kd, hkd⟩ : ∃ x : Nat, kdOf (signB l) = x := ⟨_, rfl⟩
  have hkk := (kd_of h.tok).1.2.2.2.2.2 hh
  rw [hkd] at hkk
  obtain ⟨k2, k7, k8, k9, k10⟩ := hkk
  have q2 : ((kd : Int) == 2) = false := by rw [beq_eq_false_iff_ne]; exact k2
  have q7 : ((kd : Int) == 7) = false := by rw [beq_eq_false_iff_ne]; exact k7
  have q8 : ((kd : Int) == 8) = false := by rw [beq_eq_false_iff_ne]; exact k8
  have q9 : ((kd : Int) == 9) = false := by rw [beq_eq_false_iff_ne]; exact k9
  have q10 : ((kd : Int) == 10) = false := by rw [beq_eq_false_iff_ne]; exact k10
  have H0 := hid (And.intro h (And.intro hsg (And.intro hbd (And.intro hh (h.own0 hn0)))))
  have HIH := hid IHF
  clear IHF h hsg hbd hh k2 k7 k8 k9 k10
  go_enter Tryz.func130, Tryz.ntmps130
  go_wp2_with fail
  refine hs.mono ?_
  rintro e W1 ⟨rfl, b1⟩
  have hki := kindOf_any (signB l) W1 (show Sg W1 from (b1.block 0 (Array.getElem?_eq_some_iff.1 H0.out.2.1).1).trans H0.out.2.1)
  rw [hkd] at hki
  have h1 := H0.out.1.keep b1
  have HB := hid b1
  clear hs b1
  go_wp2_with fail
  refine hki.mono ?_
  rintro e W1' ⟨rfl, rfl⟩
  clear hki
  rcases H0.out.2.2.2.1 with hh | hh
  · have hm : isM [40] l = false := by
      cases hm : isM [40] l with
      | false => rfl
      | true => have := (head_form H0.out.1.tok).2.2.2.2.2.1.2 hm; omega
    have hsk := pskip_no h1 (ofL [40]) (sign_not (by simp) (by decide) (by decide) h1.tok hm)
    clear h1 hm
    go_wp2_with fail
    refine hsk.mono ?_
    rintro e W2 ⟨rfl, h2, s2⟩
    have hat := atom_any h2
    have HS := hid ((Stay.of_below (E := E) (a := fv) HB.out).trans s2)
    clear hsk h2 s2
    go_wp2_with fail
    refine hat.mono ?_
    rintro e W3 hp
    have HF := hid (PieceP.from_ HS.out (PU.atom hh) hp)
    clear hat
    rcases hp with ⟨f, p, fr', q, kb', fv', -, rfl, -, -, -⟩ | ⟨q, fv', -, rfl, -, -⟩
    · go_wp2
      go_ret
      exact HF.out
    · go_wp2
      exact ⟨rfl, HF.out⟩
  · have hm : isM [40] l = true := (head_form H0.out.1.tok).2.2.2.2.2.1.1 hh
    obtain ⟨t1, r1, rfl, _, _⟩ := isM_cons hm
    have hsk := pskip_yes h1 (ofL [40]) ((sign_is (by simp) (by decide) (by decide) h1.tok).2 hm)
    clear h1 hm
    go_wp2_with fail
    refine hsk.mono ?_
    rintro e W2 ⟨rfl, h2, s2⟩
    have hS2 := (Stay.of_below (E := E) (a := fv) HB.out).trans s2
    have hfo := HIH.out r1 (by simp) W2 bd fr kb fv h2 (by have := H0.out.2.2.1; simp only [List.length_cons] at this; omega) (H0.out.2.1.stay hS2 H0.out.2.2.2.2).1
    have HS := hid hS2
    clear hsk h2 s2 hS2
    go_wp2_with fail
    refine hfo.mono ?_
    rintro e W3 (⟨f, p, fr', q, kb', fv', hpf, rfl, p3, h3, y3⟩ | ⟨q, fv', hpf, rfl, b3, y3⟩)
    case inr =>
      have HF := hid (And.intro hpf (And.intro b3 (HS.out.trans y3)))
      clear hfo hpf b3 y3
      go_wp2
      exact ⟨rfl, .inr ⟨q, fv', PU.in_no hh HF.out.1, rfl, HF.out.2.1, HF.out.2.2⟩⟩
    case inl =>
    have H3 := hid (And.intro hpf (And.intro p3 (HS.out.trans y3)))
    clear hfo hpf p3 y3
    cases hq : isM [41] q with
    | false =>
      have hmu := pmust_no h3 (ofL [41]) (sign_not (by simp) (by decide) (by decide) h3.tok hq)
      clear h3
      go_wp2_with fail
      refine hmu.mono ?_
      rintro e W4 ⟨rfl, h4, s4⟩
      have HF := hid (And.intro h4.bx (H3.out.2.2.trans s4))
      clear hmu h4 s4
      go_wp2
      exact ⟨rfl, .inr ⟨q, fv', PU.par_no hh H3.out.1 hq, rfl, HF.out.1, HF.out.2⟩⟩
    | true =>
      have HQ := hid (PU.par hh H3.out.1 hq)
      obtain ⟨t2, r2, rfl, _, _⟩ := isM_cons hq
      have hmu := pmust_yes h3 (ofL [41]) ((sign_is (by simp) (by decide) (by decide) h3.tok).2 hq)
      clear h3 hq
      go_wp2_with fail
      refine hmu.mono ?_
      rintro e W4 ⟨rfl, h4, s4⟩
      have HF := hid (And.intro h4 (And.intro (H3.out.2.2.trans s4) ((s4.pc H3.out.2.1).low HS.out.size)))
      clear hmu h4 s4
      go_wp2
      go_ret
      exact .inl ⟨f, p, fr', r2, kb', fv', HQ.out, rfl, HF.out.2.2, HF.out.1, HF.out.2.1⟩
/-- A negation. -/
theorem unary_not {E : Env} {c5 : Value} {l : List Tk} (IHU : UnaryIH E c5 l.length) (hn0 : 1 ≤ E.n0) {w : World} {bd : List (List UInt8)} {fr : List Tk} {kb : Nat} {fv : Value} (h : PSt E w l bd fr kb fv c5) (hbd : bd.length + l.length ≤ E.N) (hsg : Sg w) (hh : headOf l = 1) :
    Calls Tryz.prog 130 #[.pointer (some ⟨E.B, 0, none⟩)] w (PieceP E w (PU bd l) bd fr fv c5) := by
  have hs := sign_any h.bx
  have hkd : kdOf (signB l) = 2 := by have := (kd_of h.tok).1.1 hh; omega
  obtain ⟨⟨t, r, rfl⟩, hsb⟩ := (head_form h.tok).1 hh
  have H0 := hid (And.intro h (And.intro hsg (And.intro hbd (And.intro hh (h.own0 hn0)))))
  have HIH := hid IHU
  have HSB := hid hsb
  clear IHU h hsg hbd hh hsb
  go_enter Tryz.func130, Tryz.ntmps130
  go_wp2_with fail
  refine hs.mono ?_
  rintro e W1 ⟨rfl, b1⟩
  have hs1 : Sg W1 := (b1.block 0 (Array.getElem?_eq_some_iff.1 H0.out.2.1).1).trans H0.out.2.1
  have hki := kindOf_any (signB (t :: r)) W1 hs1
  rw [hkd] at hki
  have h1 := H0.out.1.keep b1
  have HB := hid (Stay.of_below (E := E) (a := fv) b1)
  have x2 : W1.drew.cell? ⟨0, 2, none⟩ = some (.string ⟨#[126]⟩) := sg_cell (W := W1.drew) hs1 rfl
  clear hs b1 hs1
  go_wp2_with fail
  refine hki.mono ?_
  rintro e W1' ⟨rfl, rfl⟩
  clear hki
  go_wp2
  have hdr := (Below.refl W1'.heap.size W1').drew
  have hmu := pmust_yes (h1.keep hdr) (ofL [126]) HSB.out
  have HB2 := hid (HB.out.trans (Stay.of_below (E := E) (a := fv) hdr))
  clear h1 hdr HB
  go_region_held3 (fun X => X.cell? ⟨0, 2, none⟩ = some (.string ⟨#[126]⟩)) (first | exact x2 | exact x3) (first | (go_at_call 133; refine hmu.mono ?_; rintro e W2 ⟨rfl, h2, s2⟩; have x3 := sg_cell (H0.out.2.1.stay (HB2.out.trans s2) H0.out.2.2.2.2).1 (i := 2) rfl))
  have HS2 := hid (HB2.out.trans s2)
  have hun := HIH.out r (by simp) W2 bd fr kb fv h2 (by have := H0.out.2.2.1; simp only [List.length_cons] at this; omega) (H0.out.2.1.stay HS2.out H0.out.2.2.2.2).1
  have hrl := h2.llen
  clear hmu h2 s2 HB2 x2 x3
  go_wp2_with fail
  refine hun.mono ?_
  rintro e W3 (⟨f, p, fr', q, kb', fv', hpf, rfl, p3, h3, y3⟩ | ⟨q, fv', hpf, rfl, b3, y3⟩)
  case inr =>
    have HF := hid (And.intro hpf (And.intro b3 (HS2.out.trans y3)))
    clear hun hpf b3 y3
    go_wp2
    exact ⟨rfl, .inr ⟨q, fv', PU.not_no H0.out.2.2.2.1 HF.out.1, rfl, HF.out.2.1, HF.out.2.2⟩⟩
  case inl =>
  have hsz := PU.gr hpf
  have hbb := below_box W3 (.cells #[.pointer (some ⟨p, 0, none⟩)] 53)
  have hco := pcomp1 (k := 2) (nm := ⟨#[]⟩) (h3.keep hbb) (Nat.le_trans (HS2.out.trans y3).size hbb.size) (by decide) (cell_storeR (vs := [_]) (MapKept.heap_alloc W3 _).1 rfl) ((p3.low HS2.out.size).grow hbb) (by omega)
  have H3 := hid (And.intro hpf ((HS2.out.trans y3).trans (Stay.of_below (E := E) (a := fv') hbb)))
  clear hun hpf p3 h3 y3 hbb hsz
  go_wp2_with fail
  refine hco.mono ?_
  rintro e W4 ⟨p2, rfl, p4, h4, y4⟩
  have HF := hid (And.intro p4 (And.intro h4 (H3.out.2.trans y4)))
  clear hco p4 h4 y4
  go_wp2
  go_ret
  exact .inl ⟨fOp 2 [f], p2, fr', q, kb', fv', PU.not H0.out.2.2.2.1 H3.out.1, rfl, HF.out.1, HF.out.2.1, HF.out.2.2⟩
/-- For all. -/
theorem unary_all {E : Env} {c5 : Value} {l : List Tk} (IHU : UnaryIH E c5 l.length) (hn0 : 1 ≤ E.n0) {w : World} {bd : List (List UInt8)} {fr : List Tk} {kb : Nat} {fv : Value} (h : PSt E w l bd fr kb fv c5) (hbd : bd.length + l.length ≤ E.N) (hsg : Sg w) (hh : headOf l = 2) :
    Calls Tryz.prog 130 #[.pointer (some ⟨E.B, 0, none⟩)] w (PieceP E w (PU bd l) bd fr fv c5) := by
  have hs := sign_any h.bx
  have hkd : kdOf (signB l) = 7 := by have := (kd_of h.tok).1.2.1 hh; omega
  obtain ⟨⟨t, r, rfl⟩, hsb⟩ := (head_form h.tok).2.1 hh
  have H0 := hid (And.intro h (And.intro hsg (And.intro hbd (And.intro hh (h.own0 hn0)))))
  have HIH := hid IHU
  have HN1 := hid hn0
  have HSB := hid hsb
  clear IHU h hsg hbd hh hsb
  go_enter Tryz.func130, Tryz.ntmps130
  go_wp2_with fail
  refine hs.mono ?_
  rintro e W1 ⟨rfl, b1⟩
  have hs1 : Sg W1 := (b1.block 0 (Array.getElem?_eq_some_iff.1 H0.out.2.1).1).trans H0.out.2.1
  have hki := kindOf_any (signB (t :: r)) W1 hs1
  rw [hkd] at hki
  have h1 := H0.out.1.keep b1
  have HB := hid (Stay.of_below (E := E) (a := fv) b1)
  have x2 : W1.drew.cell? ⟨0, 7, none⟩ = some (.string ⟨#[33]⟩) := sg_cell (W := W1.drew) hs1 rfl
  clear hs b1 hs1
  go_wp2_with fail
  refine hki.mono ?_
  rintro e W1' ⟨rfl, rfl⟩
  clear hki
  go_wp2
  have hdr := (Below.refl W1'.heap.size W1').drew
  have hmu := pmust_yes (h1.keep hdr) (ofL [33]) HSB.out
  have HB2 := hid (HB.out.trans (Stay.of_below (E := E) (a := fv) hdr))
  clear h1 hdr HB
  go_region_held3 (fun X => X.cell? ⟨0, 7, none⟩ = some (.string ⟨#[33]⟩)) (first | exact x2 | exact x3) (first | (go_at_call 133; refine hmu.mono ?_; rintro e W2 ⟨rfl, h2, s2⟩; have x3 := sg_cell (H0.out.2.1.stay (HB2.out.trans s2) H0.out.2.2.2.2).1 (i := 7) rfl))
  have HS2 := hid (HB2.out.trans s2)
  have hqu := quantified_any (lf := t :: r) HIH.out (.inl H0.out.2.2.2.1) (k := 7) (by rw [H0.out.2.2.2.1]; rfl) h2 H0.out.2.2.1 HN1.out (H0.out.2.1.stay HS2.out H0.out.2.2.2.2).1
  clear hmu h2 s2 HB2 x2 x3
  go_wp2_with fail
  refine hqu.mono ?_
  rintro e W3 hp
  have HF := hid (PieceP.from_ HS2.out (fun hx => hx) hp)
  clear hqu
  rcases hp with ⟨f, p, fr', q, kb', fv', -, rfl, -, -, -⟩ | ⟨q, fv', -, rfl, -, -⟩
  · go_wp2
    go_ret
    exact HF.out
  · go_wp2
    exact ⟨rfl, HF.out⟩
/-- For some. -/
theorem unary_some {E : Env} {c5 : Value} {l : List Tk} (IHU : UnaryIH E c5 l.length) (hn0 : 1 ≤ E.n0) {w : World} {bd : List (List UInt8)} {fr : List Tk} {kb : Nat} {fv : Value} (h : PSt E w l bd fr kb fv c5) (hbd : bd.length + l.length ≤ E.N) (hsg : Sg w) (hh : headOf l = 3) :
    Calls Tryz.prog 130 #[.pointer (some ⟨E.B, 0, none⟩)] w (PieceP E w (PU bd l) bd fr fv c5) := by
  have hs := sign_any h.bx
  have hkd : kdOf (signB l) = 8 := by have := (kd_of h.tok).1.2.2.1 hh; omega
  obtain ⟨⟨t, r, rfl⟩, hsb⟩ := (head_form h.tok).2.2.1 hh
  have H0 := hid (And.intro h (And.intro hsg (And.intro hbd (And.intro hh (h.own0 hn0)))))
  have HIH := hid IHU
  have HN1 := hid hn0
  have HSB := hid hsb
  clear IHU h hsg hbd hh hsb
  go_enter Tryz.func130, Tryz.ntmps130
  go_wp2_with fail
  refine hs.mono ?_
  rintro e W1 ⟨rfl, b1⟩
  have hs1 : Sg W1 := (b1.block 0 (Array.getElem?_eq_some_iff.1 H0.out.2.1).1).trans H0.out.2.1
  have hki := kindOf_any (signB (t :: r)) W1 hs1
  rw [hkd] at hki
  have h1 := H0.out.1.keep b1
  have HB := hid (Stay.of_below (E := E) (a := fv) b1)
  have x2 : W1.drew.cell? ⟨0, 8, none⟩ = some (.string ⟨#[63]⟩) := sg_cell (W := W1.drew) hs1 rfl
  clear hs b1 hs1
  go_wp2_with fail
  refine hki.mono ?_
  rintro e W1' ⟨rfl, rfl⟩
  clear hki
  go_wp2
  have hdr := (Below.refl W1'.heap.size W1').drew
  have hmu := pmust_yes (h1.keep hdr) (ofL [63]) HSB.out
  have HB2 := hid (HB.out.trans (Stay.of_below (E := E) (a := fv) hdr))
  clear h1 hdr HB
  go_region_held3 (fun X => X.cell? ⟨0, 8, none⟩ = some (.string ⟨#[63]⟩)) (first | exact x2 | exact x3) (first | (go_at_call 133; refine hmu.mono ?_; rintro e W2 ⟨rfl, h2, s2⟩; have x3 := sg_cell (H0.out.2.1.stay (HB2.out.trans s2) H0.out.2.2.2.2).1 (i := 8) rfl))
  have HS2 := hid (HB2.out.trans s2)
  have hqu := quantified_any (lf := t :: r) HIH.out (.inr H0.out.2.2.2.1) (k := 8) (by rw [H0.out.2.2.2.1]; rfl) h2 H0.out.2.2.1 HN1.out (H0.out.2.1.stay HS2.out H0.out.2.2.2.2).1
  clear hmu h2 s2 HB2 x2 x3
  go_wp2_with fail
  refine hqu.mono ?_
  rintro e W3 hp
  have HF := hid (PieceP.from_ HS2.out (fun hx => hx) hp)
  clear hqu
  rcases hp with ⟨f, p, fr', q, kb', fv', -, rfl, -, -, -⟩ | ⟨q, fv', -, rfl, -, -⟩
  · go_wp2
    go_ret
    exact HF.out
  · go_wp2
    exact ⟨rfl, HF.out⟩
/-- Truth. -/
theorem unary_true {E : Env} {c5 : Value} {l : List Tk} (IHU : UnaryIH E c5 l.length) (hn0 : 1 ≤ E.n0) {w : World} {bd : List (List UInt8)} {fr : List Tk} {kb : Nat} {fv : Value} (h : PSt E w l bd fr kb fv c5) (hbd : bd.length + l.length ≤ E.N) (hsg : Sg w) (hh : headOf l = 4) :
    Calls Tryz.prog 130 #[.pointer (some ⟨E.B, 0, none⟩)] w (PieceP E w (PU bd l) bd fr fv c5) := by
  have hs := sign_any h.bx
  have hkd : kdOf (signB l) = 9 := by have := (kd_of h.tok).1.2.2.2.1 hh; omega
  obtain ⟨⟨t, r, rfl⟩, hsb⟩ := (head_form h.tok).2.2.2.1 hh
  have H0 := hid (And.intro h (And.intro hsg (And.intro hbd (And.intro hh (h.own0 hn0)))))
  have HIH := hid IHU
  have HSB := hid hsb
  clear IHU h hsg hbd hh hsb
  go_enter Tryz.func130, Tryz.ntmps130
  go_wp2_with fail
  refine hs.mono ?_
  rintro e W1 ⟨rfl, b1⟩
  have hs1 : Sg W1 := (b1.block 0 (Array.getElem?_eq_some_iff.1 H0.out.2.1).1).trans H0.out.2.1
  have hki := kindOf_any (signB (t :: r)) W1 hs1
  rw [hkd] at hki
  have h1 := H0.out.1.keep b1
  have HB := hid (Stay.of_below (E := E) (a := fv) b1)
  have x2 : W1.drew.cell? ⟨0, 9, none⟩ = some (.string ⟨#[36, 116, 114, 117, 101]⟩) := sg_cell (W := W1.drew) hs1 rfl
  clear hs b1 hs1
  go_wp2_with fail
  refine hki.mono ?_
  rintro e W1' ⟨rfl, rfl⟩
  clear hki
  go_wp2
  have hdr := (Below.refl W1'.heap.size W1').drew
  have hmu := pmust_yes (h1.keep hdr) (ofL Lx.dTrue) HSB.out
  have HB2 := hid (HB.out.trans (Stay.of_below (E := E) (a := fv) hdr))
  clear h1 hdr HB
  go_region_held3 (fun X => X.cell? ⟨0, 9, none⟩ = some (.string ⟨#[36, 116, 114, 117, 101]⟩)) (first | exact x2 | exact x3) (first | (go_at_call 133; refine hmu.mono ?_; rintro e W2 ⟨rfl, h2, s2⟩; have x3 := sg_cell (H0.out.2.1.stay (HB2.out.trans s2) H0.out.2.2.2.2).1 (i := 9) rfl))
  have HS2 := hid (HB2.out.trans s2)
  have hco := pcomp0 (k := 9) (nm := ⟨#[]⟩) h2 HS2.out.size (by decide)
  clear hmu h2 s2 HB2 x2 x3
  go_wp2_with fail
  refine hco.mono ?_
  rintro e W3 ⟨p2, rfl, p4, h4, y4⟩
  have HF := hid (And.intro p4 (And.intro h4 (HS2.out.trans y4)))
  clear hco p4 h4 y4
  go_wp2
  go_ret
  exact .inl ⟨fOp 9 [], p2, [], r, kb, fv, PU.yes H0.out.2.2.2.1, rfl, HF.out.1, by rw [List.append_nil]; exact HF.out.2.1, HF.out.2.2⟩
/-- Falsehood. -/
theorem unary_false {E : Env} {c5 : Value} {l : List Tk} (IHU : UnaryIH E c5 l.length) (hn0 : 1 ≤ E.n0) {w : World} {bd : List (List UInt8)} {fr : List Tk} {kb : Nat} {fv : Value} (h : PSt E w l bd fr kb fv c5) (hbd : bd.length + l.length ≤ E.N) (hsg : Sg w) (hh : headOf l = 5) :
    Calls Tryz.prog 130 #[.pointer (some ⟨E.B, 0, none⟩)] w (PieceP E w (PU bd l) bd fr fv c5) := by
  have hs := sign_any h.bx
  have hkd : kdOf (signB l) = 10 := by have := (kd_of h.tok).1.2.2.2.2.1 hh; omega
  obtain ⟨⟨t, r, rfl⟩, hsb⟩ := (head_form h.tok).2.2.2.2.1 hh
  have H0 := hid (And.intro h (And.intro hsg (And.intro hbd (And.intro hh (h.own0 hn0)))))
  have HIH := hid IHU
  have HSB := hid hsb
  clear IHU h hsg hbd hh hsb
  go_enter Tryz.func130, Tryz.ntmps130
  go_wp2_with fail
  refine hs.mono ?_
  rintro e W1 ⟨rfl, b1⟩
  have hs1 : Sg W1 := (b1.block 0 (Array.getElem?_eq_some_iff.1 H0.out.2.1).1).trans H0.out.2.1
  have hki := kindOf_any (signB (t :: r)) W1 hs1
  rw [hkd] at hki
  have h1 := H0.out.1.keep b1
  have HB := hid (Stay.of_below (E := E) (a := fv) b1)
  have x2 : W1.drew.cell? ⟨0, 10, none⟩ = some (.string ⟨#[36, 102, 97, 108, 115, 101]⟩) := sg_cell (W := W1.drew) hs1 rfl
  clear hs b1 hs1
  go_wp2_with fail
  refine hki.mono ?_
  rintro e W1' ⟨rfl, rfl⟩
  clear hki
  go_wp2
  have hdr := (Below.refl W1'.heap.size W1').drew
  have hmu := pmust_yes (h1.keep hdr) (ofL Lx.dFalse) HSB.out
  have HB2 := hid (HB.out.trans (Stay.of_below (E := E) (a := fv) hdr))
  clear h1 hdr HB
  go_region_held3 (fun X => X.cell? ⟨0, 10, none⟩ = some (.string ⟨#[36, 102, 97, 108, 115, 101]⟩)) (first | exact x2 | exact x3) (first | (go_at_call 133; refine hmu.mono ?_; rintro e W2 ⟨rfl, h2, s2⟩; have x3 := sg_cell (H0.out.2.1.stay (HB2.out.trans s2) H0.out.2.2.2.2).1 (i := 10) rfl))
  have HS2 := hid (HB2.out.trans s2)
  have hco := pcomp0 (k := 10) (nm := ⟨#[]⟩) h2 HS2.out.size (by decide)
  clear hmu h2 s2 HB2 x2 x3
  go_wp2_with fail
  refine hco.mono ?_
  rintro e W3 ⟨p2, rfl, p4, h4, y4⟩
  have HF := hid (And.intro p4 (And.intro h4 (HS2.out.trans y4)))
  clear hco p4 h4 y4
  go_wp2
  go_ret
  exact .inl ⟨fOp 10 [], p2, [], r, kb, fv, PU.nope H0.out.2.2.2.1, rfl, HF.out.1, by rw [List.append_nil]; exact HF.out.2.1, HF.out.2.2⟩
theorem unary_step {E : Env} {c5 : Value} {l : List Tk} (IHU : UnaryIH E c5 l.length) (IHF : FormulaIH E c5 l.length) (hn0 : 1 ≤ E.n0) {w : World} {bd : List (List UInt8)} {fr : List Tk} {kb : Nat} {fv : Value} (h : PSt E w l bd fr kb fv c5) (hbd : bd.length + l.length ≤ E.N) (hsg : Sg w) :
    Calls Tryz.prog 130 #[.pointer (some ⟨E.B, 0, none⟩)] w (PieceP E w (PU bd l) bd fr fv c5) := by
  have h6 := (head_form h.tok).2.2.2.2.2.2
  have hc : headOf l = 0 ∨ headOf l = 1 ∨ headOf l = 2 ∨ headOf l = 3 ∨ headOf l = 4 ∨ headOf l = 5 ∨ headOf l = 6 := by omega
  rcases hc with hh | hh | hh | hh | hh | hh | hh
  · exact unary_plain IHF hn0 h hbd hsg (.inl hh)
  · exact unary_not IHU hn0 h hbd hsg hh
  · exact unary_all IHU hn0 h hbd hsg hh
  · exact unary_some IHU hn0 h hbd hsg hh
  · exact unary_true IHU hn0 h hbd hsg hh
  · exact unary_false IHU hn0 h hbd hsg hh
  · exact unary_plain IHF hn0 h hbd hsg (.inr hh)
