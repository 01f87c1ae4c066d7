import Derived.Test.YthkinkcpfcpehaaGreatDoorGG
import Derived.Recover
namespace Go.Proofs.YthkinkcpfcpehaaGreatDoor
set_option maxRecDepth 100000
set_option maxHeartbeats 8000000
section
open Go.RowKit
open Lx (Tk ofL KsAt)
theorem join_form {l : List Tk} (hl : ∀ t ∈ l, TkOk t) : (joinOf l = 5 → HeadF l [61, 62]) ∧ (joinOf l = 6 → HeadF l [60, 61, 62]) ∧ (joinOf l = 3 ↔ isM [38] l = true) ∧ (joinOf l = 4 ↔ isM [124] l = true) ∧ (joinOf l = 0 ∨ joinOf l = 3 ∨ joinOf l = 4 ∨ joinOf l = 5 ∨ joinOf l = 6) := by
  cases l with
  | nil => simp [joinOf, isM]
  | cons t r =>
    have hs4 : t.k = 4 → signB (t :: r) = ofL t.t := fun h => by show (if t.k = 4 ∨ t.k = 3 then ofL t.t else _) = _; rw [if_pos (.inl h)]
    by_cases h4 : t.k = 4
    · simp only [joinOf, isM, h4, decide_true, Bool.true_and, decide_eq_true_eq]
      by_cases e1 : t.t = [61, 62]
      · rw [if_pos e1]
        refine ⟨fun _ => ⟨⟨t, r, rfl⟩, by rw [hs4 h4, e1]⟩, ?_, ?_, ?_, ?_⟩ <;> simp [e1]
      · rw [if_neg e1]
        by_cases e2 : t.t = [60, 61, 62]
        · rw [if_pos e2]
          refine ⟨?_, fun _ => ⟨⟨t, r, rfl⟩, by rw [hs4 h4, e2]⟩, ?_, ?_, ?_⟩ <;> simp [e2]
        · rw [if_neg e2]
          by_cases e3 : t.t = [38]
          · rw [if_pos e3]; simp [e3]
          · rw [if_neg e3]
            by_cases e4 : t.t = [124]
            · rw [if_pos e4]; simp [e4]
            · rw [if_neg e4]; simp [e3, e4]
    · simp [joinOf, h4, isM]
/-- So far this was read, and what comes of the rest is what comes of all. -/
structure FGoes (bd : List (List UInt8)) (l : List Tk) (m : Nat) (f : Fm) (fr q : List Tk) : Prop where
  more : ∀ {h : Fm} {fr' q' : List Tk}, PM bd m f q (.ok h fr' q') → PF bd l (.ok h (fr ++ fr') q')
  no : ∀ {q' : List Tk}, PM bd m f q (.no q') → PF bd l (.no q')
  len : f.size + 3 * q.length ≤ 3 * l.length
theorem FGoes.start {bd : List (List UInt8)} {l : List Tk} {m : Nat} {f : Fm} {fr q : List Tk} (h : PU bd l (.ok f fr q)) (hj : joinOf q = m + 2) (hm : m = 1 ∨ m = 2) : FGoes bd l m f fr q := ⟨fun hp => PF.many h hj hm hp, fun hp => PF.many_no h hj hm hp, PU.gr h⟩
theorem FGoes.step {bd : List (List UInt8)} {l : List Tk} {m : Nat} {f g : Fm} {fr fr1 q q1 : List Tk} (h : FGoes bd l m f fr q) (hj : joinOf q = m + 2) (_hm : m = 1 ∨ m = 2) (hp : PU bd q.tail (.ok g fr1 q1)) : FGoes bd l m (fOp (m + 2 : Nat) [f, g]) (fr ++ fr1) q1 := by
  have ht := tail_ltJ (l := q) (by omega)
  refine ⟨fun hx => ?_, fun hx => h.no (PM.more_no hj hp hx), ?_⟩
  · rw [List.append_assoc]
    exact h.more (PM.more hj hp hx)
  · have h1 := h.len
    have h2 := PU.gr hp
    rw [size_two (by omega)]; omega
theorem FGoes.stop {bd : List (List UInt8)} {l : List Tk} {m : Nat} {f : Fm} {fr q : List Tk} (h : FGoes bd l m f fr q) (hj : joinOf q ≠ m + 2) : PF bd l (.ok f fr q) := by
  have := h.more (PM.stop hj)
  rwa [List.append_nil] at this
theorem FGoes.bad {bd : List (List UInt8)} {l : List Tk} {m : Nat} {f : Fm} {fr q q' : List Tk} (h : FGoes bd l m f fr q) (hj : joinOf q = m + 2) (hp : PU bd q.tail (.no q')) : PF bd l (.no q') := h.no (PM.here_no hj hp)
/-- How many tokens are left. -/
def restLen (E : Env) (W : World) : Nat := match W.cell? ⟨E.B, 0, none⟩ with | some (.slice _ n _) => n | _ => 0
theorem PSt.rest {E : Env} {W : World} {l : List Tk} {bd : List (List UInt8)} {fr : List Tk} {kb : Nat} {fv c5 : Value} (h : PSt E W l bd fr kb fv c5) : restLen E W = l.length := by
  obtain ⟨rv, h1, h2, h3⟩ := h.bx.ks
  obtain ⟨a, c, rfl, -⟩ := h2
  have x0 : W.cell? ⟨E.B, 0, none⟩ = some (.slice a l.length c) := cell_storeR (vs := [_, _, _, _, _, _]) h1 rfl
  unfold restLen
  rw [x0]
/-- Both joined, or one alone. -/
theorem formula_one {E : Env} {c5 : Value} {l : List Tk} (IHU : UnaryIH E c5 (l.length + 1)) (hn0 : 1 ≤ E.n0) {w : World} {bd : List (List UInt8)} {fr : List Tk} {kb : Nat} {fv : Value} (h : PSt E w l bd fr kb fv c5) (hbd : bd.length + l.length ≤ E.N) (hsg : Sg w) :
    Calls Tryz.prog 94 #[.pointer (some ⟨E.B, 0, none⟩)] w (PieceP E w (PF bd l) bd fr fv c5) := by
  have hun := IHU l (by omega) w bd fr kb fv h hbd hsg
  have H0 := hid (And.intro (h.own0 hn0) (And.intro hsg (And.intro hbd h.llen)))
  have HIH := hid IHU
  clear IHU h hsg hbd
  go_enter Tryz.func94, Tryz.ntmps94
  go_wp2_with fail
  refine hun.mono ?_
  rintro e W1 (⟨f, p, fr1, q, kb1, fv1, hpu, rfl, p1, h1, y1⟩ | ⟨q, fv1, hpu, rfl, b1, y1⟩)
  case inr =>
    have HF := hid (And.intro hpu (And.intro b1 y1))
    clear hun hpu b1 y1
    go_wp2
    exact ⟨rfl, .inr ⟨q, fv1, PF.first_no HF.out.1, rfl, HF.out.2.1, HF.out.2.2⟩⟩
  case inl =>
  have hs := sign_any h1.bx
  have hjf := join_form h1.tok
  have hkj := (kd_of h1.tok).2
  have hsg1 := H0.out.2.1.stay y1 H0.out.1
  have hlen := PU.gr hpu
  have H1 := hid (And.intro hpu (And.intro p1 (And.intro y1 (And.intro hsg1 (And.intro hjf (And.intro h1 hlen))))))
  clear hun hpu p1 y1 h1 hjf hlen
  go_wp2_with fail
  refine hs.mono ?_
  rintro e W2 ⟨rfl, b2⟩
  have hsg2 : Sg W2 := (b2.block 0 (Array.getElem?_eq_some_iff.1 hsg1.1).1).trans hsg1.1
  have hki := kindOf_any (signB q) W2 hsg2
  have h2 := H1.out.2.2.2.2.2.1.keep b2
  have HB := hid (And.intro (Stay.of_below (E := E) (a := fv1) b2) hsg2)
  clear hs b2
  rcases H1.out.2.2.2.2.1.2.2.2.2 with hj | hj | hj | hj | hj
  · have hkk := hkj.1 hj
    obtain ⟨kd, hkd⟩ : ∃ x : Nat, kdOf (signB q) = x := ⟨_, rfl⟩
    rw [hkd] at hkk hki
    obtain ⟨k3, k4, k5, k6⟩ := hkk
    have q3 : ((kd : Int) == 3) = false := by rw [beq_eq_false_iff_ne]; exact k3
    have q4 : ((kd : Int) == 4) = false := by rw [beq_eq_false_iff_ne]; exact k4
    have q5 : ((kd : Int) == 5) = false := by rw [beq_eq_false_iff_ne]; exact k5
    have q6 : ((kd : Int) == 6) = false := by rw [beq_eq_false_iff_ne]; exact k6
    have HF := hid (And.intro (PF.only H1.out.1 hj) (And.intro h2 (And.intro (HB.out.1.pc H1.out.2.1) (H1.out.2.2.1.trans HB.out.1))))
    clear hkj hsg1 hsg2 h2 k3 k4 k5 k6 hj
    go_wp2_with fail
    refine hki.mono ?_
    rintro e W2' ⟨rfl, rfl⟩
    clear hki
    go_wp2
    go_ret
    exact .inl ⟨f, p, fr1, q, kb1, fv1, HF.out.1, rfl, HF.out.2.2.1, HF.out.2.1, HF.out.2.2.2⟩
  · have hkk : kdOf (signB q) = 3 := by have := hkj.2 (by omega); omega
    rw [hkk] at hki
    have HST : Hid (FGoes bd l 1 f fr1 q ∧ PcP (Good E w.heap.size fv1) W2 p f ∧ PSt E W2 q bd (fr ++ fr1) kb1 fv1 c5 ∧ Stay E w fv W2 fv1) := ⟨FGoes.start H1.out.1 hj (by decide), HB.out.1.pc H1.out.2.1, h2, H1.out.2.2.1.trans HB.out.1⟩
    clear hkj hsg1 hsg2 hkk hj h2 HB
    go_wp2_with fail
    refine hki.mono ?_
    rintro e W2' ⟨rfl, rfl⟩
    clear hki
    go_wp2
    go_loopw [3] (fun v W => ∃ p : Nat, v = .pointer (some ⟨p, 0, none⟩) ∧ Hid (∃ f' fr' q' kb' fv', FGoes bd l 1 f' fr' q' ∧ PcP (Good E w.heap.size fv') W p f' ∧ PSt E W q' bd (fr ++ fr') kb' fv' c5 ∧ Stay E w fv W fv')) (fun _ W => restLen E W)
    case atStart => exact ⟨p, rfl, f, fr1, q, kb1, fv1, HST.out⟩
    case round =>
      obtain ⟨p, rfl, f', fr', q', kb', fv', hgo, hpc, hst, hsy⟩ := hrel
      have hsg3 := H0.out.2.1.stay hsy H0.out.1
      have x2 : wr.drew.cell? ⟨0, 3, none⟩ = some (.string ⟨#[38]⟩) := sg_cell (W := wr.drew) hsg3.1 rfl
      have hrest := hst.rest
      have hdr := (Below.refl wr.heap.size wr).drew
      have hdd := Stay.of_below (E := E) (a := fv') hdr
      have h3 := hst.keep hdr
      have hjf := (join_form hst.tok).2.2.1
      by_cases hm : isM [38] q' = true
      · have HGo := hid (And.intro hgo (And.intro (hjf.2 hm) (And.intro (hdd.pc hpc) (And.intro (hsy.trans hdd) (And.intro (H0.out.2.1.stay (hsy.trans hdd) H0.out.1) hrest)))))
        obtain ⟨t, r, rfl, _, _⟩ := isM_cons hm
        have hsk := pskip_yes h3 (ofL [38]) ((sign_is (by simp) (by decide) (by decide) h3.tok).2 hm)
        clear hgo hpc hst hsy hsg3 hdr hdd h3 hjf hm hrest HST
        go_wp2
        go_region_held3 (fun X => X.cell? ⟨0, 3, none⟩ = some (.string ⟨#[38]⟩)) (first | exact x2 | exact x3) (first | (go_at_call 134; refine hsk.mono ?_; rintro e W3 ⟨rfl, h3, s3⟩; have x3 := sg_cell (HGo.out.2.2.2.2.1.1.stay s3 HGo.out.2.2.2.2.1.2).1 (i := 3) rfl))
        have hlg := HGo.out.1.len
        have hfp := size_pos' f'
        simp only [List.length_cons] at hlg
        have hun := HIH.out r (by omega) W3 bd (fr ++ fr') kb' fv' h3 (by have := H0.out.2.2.1; omega) (HGo.out.2.2.2.2.1.1.stay s3 HGo.out.2.2.2.2.1.2).1
        have HS3 := hid (And.intro s3 (s3.pc HGo.out.2.2.1))
        clear hsk h3 s3 x2 x3
        go_wp2_with fail
        refine hun.mono ?_
        rintro e W4 (⟨g, p', fr2, q2, kb2, fv2, hpg, rfl, p4, h4, y4⟩ | ⟨q2, fv2, hpg, rfl, b4, y4⟩)
        case inr =>
          have HF := hid (And.intro hpg (And.intro b4 ((HGo.out.2.2.2.1.trans HS3.out.1).trans y4)))
          clear hun hpg b4 y4
          go_wp2
          exact ⟨rfl, .inr ⟨q2, fv2, HGo.out.1.bad HGo.out.2.1 HF.out.1, rfl, HF.out.2.1, HF.out.2.2⟩⟩
        case inl =>
        have hszg := PU.gr hpg
        have hll := H0.out.2.2.2
        have hbb := below_box W4 (.cells #[.pointer (some ⟨p, 0, none⟩), .pointer (some ⟨p', 0, none⟩)] 53)
        have hz := (MapKept.heap_alloc W4 (.cells #[.pointer (some ⟨p, 0, none⟩), .pointer (some ⟨p', 0, none⟩)] 53)).1
        have hlow := (HGo.out.2.2.2.1.trans HS3.out.1).size
        have hco := pcomp2 (k := 3) (nm := ⟨#[]⟩) (m := w.heap.size) (p := p) (p' := p') (f := f') (f' := g) (h4.keep hbb) (Nat.le_trans ((HGo.out.2.2.2.1.trans HS3.out.1).trans y4).size hbb.size) (by decide) (cell_storeR (vs := [_, _]) hz rfl) (cell_storeR (vs := [_, _]) hz rfl) ((y4.pc HS3.out.2).grow hbb) ((p4.low hlow).grow hbb) (by omega)
        have hlq := PU.len hpg
        have H4 := hid (And.intro (HGo.out.1.step HGo.out.2.1 (by decide) hpg) (And.intro (((HGo.out.2.2.2.1.trans HS3.out.1).trans y4).trans (Stay.of_below (E := E) (a := fv2) hbb)) hlq))
        clear hun hpg p4 h4 y4 hbb hz hszg hll hlow hlg hfp hlq
        go_wp2_with fail
        refine hco.mono ?_
        rintro e W5 ⟨p2, rfl, p5, h5, y5⟩
        have hr5 := h5.rest
        have hs5 := h5
        rw [List.append_assoc] at hs5
        have HF : Hid (∃ f' fr' q' kb' fv', FGoes bd l 1 f' fr' q' ∧ PcP (Good E w.heap.size fv') W5 p2 f' ∧ PSt E W5 q' bd (fr ++ fr') kb' fv' c5 ∧ Stay E w fv W5 fv') := ⟨_, _, _, _, _, H4.out.1, p5, hs5, H4.out.2.1.trans y5⟩
        have HMs : Hid (restLen E W5 < restLen E wr) := by show restLen E W5 < restLen E wr; rw [hr5, HGo.out.2.2.2.2.2]; have := H4.out.2.2; simp only [List.length_cons]; omega
        clear hco p5 h5 y5 hr5 hs5
        go_wp2
        go_roundw
        case rel => exact ⟨p2, rfl, HF.out⟩
        case measure => exact HMs.out
      · have hmf : isM [38] q' = false := by simpa using hm
        have hsk := pskip_no h3 (ofL [38]) (sign_not (by simp) (by decide) (by decide) h3.tok hmf)
        have HGo := hid (And.intro (hgo.stop (fun hx => hm (hjf.1 hx))) (And.intro (hdd.pc hpc) (And.intro (hsy.trans hdd) (H0.out.2.1.stay (hsy.trans hdd) H0.out.1))))
        clear hgo hpc hst hsy hsg3 hdr hdd h3 hjf hm hmf hrest HST
        go_wp2
        go_region_held3 (fun X => X.cell? ⟨0, 3, none⟩ = some (.string ⟨#[38]⟩)) (first | exact x2 | exact x3) (first | (go_at_call 134; refine hsk.mono ?_; rintro e W3 ⟨rfl, h3, s3⟩; have x3 := sg_cell (HGo.out.2.2.2.1.stay s3 HGo.out.2.2.2.2).1 (i := 3) rfl))
        have HF := hid (And.intro h3 (And.intro (s3.pc HGo.out.2.1) (HGo.out.2.2.1.trans s3)))
        clear hsk h3 s3 x2 x3
        go_wp2
        go_ret
        exact .inl ⟨f', p, fr', q', kb', fv', HGo.out.1, rfl, HF.out.2.1, HF.out.1, HF.out.2.2⟩
  · have hkk : kdOf (signB q) = 4 := by have := hkj.2 (by omega); omega
    rw [hkk] at hki
    have HST : Hid (FGoes bd l 2 f fr1 q ∧ PcP (Good E w.heap.size fv1) W2 p f ∧ PSt E W2 q bd (fr ++ fr1) kb1 fv1 c5 ∧ Stay E w fv W2 fv1) := ⟨FGoes.start H1.out.1 hj (by decide), HB.out.1.pc H1.out.2.1, h2, H1.out.2.2.1.trans HB.out.1⟩
    clear hkj hsg1 hsg2 hkk hj h2 HB
    go_wp2_with fail
    refine hki.mono ?_
    rintro e W2' ⟨rfl, rfl⟩
    clear hki
    go_wp2
    go_loopw [3] (fun v W => ∃ p : Nat, v = .pointer (some ⟨p, 0, none⟩) ∧ Hid (∃ f' fr' q' kb' fv', FGoes bd l 2 f' fr' q' ∧ PcP (Good E w.heap.size fv') W p f' ∧ PSt E W q' bd (fr ++ fr') kb' fv' c5 ∧ Stay E w fv W fv')) (fun _ W => restLen E W)
    case atStart => exact ⟨p, rfl, f, fr1, q, kb1, fv1, HST.out⟩
    case round =>
      obtain ⟨p, rfl, f', fr', q', kb', fv', hgo, hpc, hst, hsy⟩ := hrel
      have hsg3 := H0.out.2.1.stay hsy H0.out.1
      have x2 : wr.drew.cell? ⟨0, 4, none⟩ = some (.string ⟨#[124]⟩) := sg_cell (W := wr.drew) hsg3.1 rfl
      have hrest := hst.rest
      have hdr := (Below.refl wr.heap.size wr).drew
      have hdd := Stay.of_below (E := E) (a := fv') hdr
      have h3 := hst.keep hdr
      have hjf := (join_form hst.tok).2.2.2.1
      by_cases hm : isM [124] q' = true
      · have HGo := hid (And.intro hgo (And.intro (hjf.2 hm) (And.intro (hdd.pc hpc) (And.intro (hsy.trans hdd) (And.intro (H0.out.2.1.stay (hsy.trans hdd) H0.out.1) hrest)))))
        obtain ⟨t, r, rfl, _, _⟩ := isM_cons hm
        have hsk := pskip_yes h3 (ofL [124]) ((sign_is (by simp) (by decide) (by decide) h3.tok).2 hm)
        clear hgo hpc hst hsy hsg3 hdr hdd h3 hjf hm hrest HST
        go_wp2
        go_region_held3 (fun X => X.cell? ⟨0, 4, none⟩ = some (.string ⟨#[124]⟩)) (first | exact x2 | exact x3) (first | (go_at_call 134; refine hsk.mono ?_; rintro e W3 ⟨rfl, h3, s3⟩; have x3 := sg_cell (HGo.out.2.2.2.2.1.1.stay s3 HGo.out.2.2.2.2.1.2).1 (i := 4) rfl))
        have hlg := HGo.out.1.len
        have hfp := size_pos' f'
        simp only [List.length_cons] at hlg
        have hun := HIH.out r (by omega) W3 bd (fr ++ fr') kb' fv' h3 (by have := H0.out.2.2.1; omega) (HGo.out.2.2.2.2.1.1.stay s3 HGo.out.2.2.2.2.1.2).1
        have HS3 := hid (And.intro s3 (s3.pc HGo.out.2.2.1))
        clear hsk h3 s3 x2 x3
        go_wp2_with fail
        refine hun.mono ?_
        rintro e W4 (⟨g, p', fr2, q2, kb2, fv2, hpg, rfl, p4, h4, y4⟩ | ⟨q2, fv2, hpg, rfl, b4, y4⟩)
        case inr =>
          have HF := hid (And.intro hpg (And.intro b4 ((HGo.out.2.2.2.1.trans HS3.out.1).trans y4)))
          clear hun hpg b4 y4
          go_wp2
          exact ⟨rfl, .inr ⟨q2, fv2, HGo.out.1.bad HGo.out.2.1 HF.out.1, rfl, HF.out.2.1, HF.out.2.2⟩⟩
        case inl =>
        have hszg := PU.gr hpg
        have hll := H0.out.2.2.2
        have hbb := below_box W4 (.cells #[.pointer (some ⟨p, 0, none⟩), .pointer (some ⟨p', 0, none⟩)] 53)
        have hz := (MapKept.heap_alloc W4 (.cells #[.pointer (some ⟨p, 0, none⟩), .pointer (some ⟨p', 0, none⟩)] 53)).1
        have hlow := (HGo.out.2.2.2.1.trans HS3.out.1).size
        have hco := pcomp2 (k := 4) (nm := ⟨#[]⟩) (m := w.heap.size) (p := p) (p' := p') (f := f') (f' := g) (h4.keep hbb) (Nat.le_trans ((HGo.out.2.2.2.1.trans HS3.out.1).trans y4).size hbb.size) (by decide) (cell_storeR (vs := [_, _]) hz rfl) (cell_storeR (vs := [_, _]) hz rfl) ((y4.pc HS3.out.2).grow hbb) ((p4.low hlow).grow hbb) (by omega)
        have hlq := PU.len hpg
        have H4 := hid (And.intro (HGo.out.1.step HGo.out.2.1 (by decide) hpg) (And.intro (((HGo.out.2.2.2.1.trans HS3.out.1).trans y4).trans (Stay.of_below (E := E) (a := fv2) hbb)) hlq))
        clear hun hpg p4 h4 y4 hbb hz hszg hll hlow hlg hfp hlq
        go_wp2_with fail
        refine hco.mono ?_
        rintro e W5 ⟨p2, rfl, p5, h5, y5⟩
        have hr5 := h5.rest
        have hs5 := h5
        rw [List.append_assoc] at hs5
        have HF : Hid (∃ f' fr' q' kb' fv', FGoes bd l 2 f' fr' q' ∧ PcP (Good E w.heap.size fv') W5 p2 f' ∧ PSt E W5 q' bd (fr ++ fr') kb' fv' c5 ∧ Stay E w fv W5 fv') := ⟨_, _, _, _, _, H4.out.1, p5, hs5, H4.out.2.1.trans y5⟩
        have HMs : Hid (restLen E W5 < restLen E wr) := by show restLen E W5 < restLen E wr; rw [hr5, HGo.out.2.2.2.2.2]; have := H4.out.2.2; simp only [List.length_cons]; omega
        clear hco p5 h5 y5 hr5 hs5
        go_wp2
        go_roundw
        case rel => exact ⟨p2, rfl, HF.out⟩
        case measure => exact HMs.out
      · have hmf : isM [124] q' = false := by simpa using hm
        have hsk := pskip_no h3 (ofL [124]) (sign_not (by simp) (by decide) (by decide) h3.tok hmf)
        have HGo := hid (And.intro (hgo.stop (fun hx => hm (hjf.1 hx))) (And.intro (hdd.pc hpc) (And.intro (hsy.trans hdd) (H0.out.2.1.stay (hsy.trans hdd) H0.out.1))))
        clear hgo hpc hst hsy hsg3 hdr hdd h3 hjf hm hmf hrest HST
        go_wp2
        go_region_held3 (fun X => X.cell? ⟨0, 4, none⟩ = some (.string ⟨#[124]⟩)) (first | exact x2 | exact x3) (first | (go_at_call 134; refine hsk.mono ?_; rintro e W3 ⟨rfl, h3, s3⟩; have x3 := sg_cell (HGo.out.2.2.2.1.stay s3 HGo.out.2.2.2.2).1 (i := 4) rfl))
        have HF := hid (And.intro h3 (And.intro (s3.pc HGo.out.2.1) (HGo.out.2.2.1.trans s3)))
        clear hsk h3 s3 x2 x3
        go_wp2
        go_ret
        exact .inl ⟨f', p, fr', q', kb', fv', HGo.out.1, rfl, HF.out.2.1, HF.out.1, HF.out.2.2⟩
  · have hkk : kdOf (signB q) = 5 := by have := hkj.2 (by omega); omega
    rw [hkk] at hki
    obtain ⟨⟨t, r, rfl⟩, hsb⟩ := H1.out.2.2.2.2.1.1 hj
    have x2 : W2.drew.cell? ⟨0, 5, none⟩ = some (.string ⟨#[61, 62]⟩) := sg_cell (W := W2.drew) hsg2 rfl
    have HSB := hid hsb
    have HJ := hid hj
    clear hkj hsg1 hsg2 hkk hj hsb
    go_wp2_with fail
    refine hki.mono ?_
    rintro e W2' ⟨rfl, rfl⟩
    clear hki
    go_wp2
    have hdr := (Below.refl W2'.heap.size W2').drew
    have hmu := pmust_yes (h2.keep hdr) (ofL [61, 62]) HSB.out
    have HB2 := hid (HB.out.1.trans (Stay.of_below (E := E) (a := fv1) hdr))
    clear h2 hdr
    go_region_held3 (fun X => X.cell? ⟨0, 5, none⟩ = some (.string ⟨#[61, 62]⟩)) (first | exact x2 | exact x3) (first | (go_at_call 133; refine hmu.mono ?_; rintro e W3 ⟨rfl, h3, s3⟩; have x3 := sg_cell (H1.out.2.2.2.1.1.stay (HB2.out.trans s3) H1.out.2.2.2.1.2).1 (i := 5) rfl))
    have HS3 := hid (HB2.out.trans s3)
    have hlr := PU.len H1.out.1
    have hqn : r.length < l.length + 1 := by simp only [List.length_cons] at hlr; omega
    have hun := HIH.out r hqn W3 bd (fr ++ fr1) kb1 fv1 h3 (by have := H0.out.2.2.1; simp only [List.length_cons] at hlr; omega) (H1.out.2.2.2.1.1.stay HS3.out H1.out.2.2.2.1.2).1
    have hp3 := HS3.out.pc H1.out.2.1
    have HL := hid (And.intro hlr hp3)
    clear hmu h3 s3 HB2 x2 x3 hqn hlr hp3
    go_wp2_with fail
    refine hun.mono ?_
    rintro e W4 (⟨g, p', fr2, q2, kb2, fv2, hpg, rfl, p4, h4, y4⟩ | ⟨q2, fv2, hpg, rfl, b4, y4⟩)
    case inr =>
      have HF := hid (And.intro hpg (And.intro b4 ((H1.out.2.2.1.trans HS3.out).trans y4)))
      clear hun hpg b4 y4
      go_wp2
      exact ⟨rfl, .inr ⟨q2, fv2, PF.two_no H1.out.1 (.inl HJ.out) HF.out.1, rfl, HF.out.2.1, HF.out.2.2⟩⟩
    case inl =>
    have hszf := H1.out.2.2.2.2.2.2
    have hszg := PU.gr hpg
    have hll := H0.out.2.2.2
    have hlr2 := HL.out.1
    have hbb := below_box W4 (.cells #[.pointer (some ⟨p, 0, none⟩), .pointer (some ⟨p', 0, none⟩)] 53)
    have hz := (MapKept.heap_alloc W4 (.cells #[.pointer (some ⟨p, 0, none⟩), .pointer (some ⟨p', 0, none⟩)] 53)).1
    have hlow := (H1.out.2.2.1.trans HS3.out).size
    have hco := pcomp2 (k := 5) (nm := ⟨#[]⟩) (m := w.heap.size) (p := p) (p' := p') (f := f) (f' := g) (h4.keep hbb) (Nat.le_trans ((H1.out.2.2.1.trans HS3.out).trans y4).size hbb.size) (by decide) (cell_storeR (vs := [_, _]) hz rfl) (cell_storeR (vs := [_, _]) hz rfl) ((y4.pc HL.out.2).grow hbb) ((p4.low hlow).grow hbb) (by simp only [List.length_cons] at hlr2 hszf; omega)
    have H4 := hid (And.intro hpg (((H1.out.2.2.1.trans HS3.out).trans y4).trans (Stay.of_below (E := E) (a := fv2) hbb)))
    clear hun hpg p4 h4 y4 hbb hz hszf hszg hll hlr2 hlow
    go_wp2_with fail
    refine hco.mono ?_
    rintro e W5 ⟨p2, rfl, p5, h5, y5⟩
    have HF := hid (And.intro p5 (And.intro h5 (H4.out.2.trans y5)))
    clear hco p5 h5 y5
    go_wp2
    go_ret
    have hpf := PF.two H1.out.1 (.inl HJ.out) H4.out.1
    rw [HJ.out] at hpf
    have hs5 := HF.out.2.1
    rw [List.append_assoc] at hs5
    exact .inl ⟨fOp 5 [f, g], p2, fr1 ++ fr2, q2, kb2, fv2, hpf, rfl, HF.out.1, hs5, HF.out.2.2⟩
  · have hkk : kdOf (signB q) = 6 := by have := hkj.2 (by omega); omega
    rw [hkk] at hki
    obtain ⟨⟨t, r, rfl⟩, hsb⟩ := H1.out.2.2.2.2.1.2.1 hj
    have x2 : W2.drew.cell? ⟨0, 6, none⟩ = some (.string ⟨#[60, 61, 62]⟩) := sg_cell (W := W2.drew) hsg2 rfl
    have HSB := hid hsb
    have HJ := hid hj
    clear hkj hsg1 hsg2 hkk hj hsb
    go_wp2_with fail
    refine hki.mono ?_
    rintro e W2' ⟨rfl, rfl⟩
    clear hki
    go_wp2
    have hdr := (Below.refl W2'.heap.size W2').drew
    have hmu := pmust_yes (h2.keep hdr) (ofL [60, 61, 62]) HSB.out
    have HB2 := hid (HB.out.1.trans (Stay.of_below (E := E) (a := fv1) hdr))
    clear h2 hdr
    go_region_held3 (fun X => X.cell? ⟨0, 6, none⟩ = some (.string ⟨#[60, 61, 62]⟩)) (first | exact x2 | exact x3) (first | (go_at_call 133; refine hmu.mono ?_; rintro e W3 ⟨rfl, h3, s3⟩; have x3 := sg_cell (H1.out.2.2.2.1.1.stay (HB2.out.trans s3) H1.out.2.2.2.1.2).1 (i := 6) rfl))
    have HS3 := hid (HB2.out.trans s3)
    have hlr := PU.len H1.out.1
    have hqn : r.length < l.length + 1 := by simp only [List.length_cons] at hlr; omega
    have hun := HIH.out r hqn W3 bd (fr ++ fr1) kb1 fv1 h3 (by have := H0.out.2.2.1; simp only [List.length_cons] at hlr; omega) (H1.out.2.2.2.1.1.stay HS3.out H1.out.2.2.2.1.2).1
    have hp3 := HS3.out.pc H1.out.2.1
    have HL := hid (And.intro hlr hp3)
    clear hmu h3 s3 HB2 x2 x3 hqn hlr hp3
    go_wp2_with fail
    refine hun.mono ?_
    rintro e W4 (⟨g, p', fr2, q2, kb2, fv2, hpg, rfl, p4, h4, y4⟩ | ⟨q2, fv2, hpg, rfl, b4, y4⟩)
    case inr =>
      have HF := hid (And.intro hpg (And.intro b4 ((H1.out.2.2.1.trans HS3.out).trans y4)))
      clear hun hpg b4 y4
      go_wp2
      exact ⟨rfl, .inr ⟨q2, fv2, PF.two_no H1.out.1 (.inr HJ.out) HF.out.1, rfl, HF.out.2.1, HF.out.2.2⟩⟩
    case inl =>
    have hszf := H1.out.2.2.2.2.2.2
    have hszg := PU.gr hpg
    have hll := H0.out.2.2.2
    have hlr2 := HL.out.1
    have hbb := below_box W4 (.cells #[.pointer (some ⟨p, 0, none⟩), .pointer (some ⟨p', 0, none⟩)] 53)
    have hz := (MapKept.heap_alloc W4 (.cells #[.pointer (some ⟨p, 0, none⟩), .pointer (some ⟨p', 0, none⟩)] 53)).1
    have hlow := (H1.out.2.2.1.trans HS3.out).size
    have hco := pcomp2 (k := 6) (nm := ⟨#[]⟩) (m := w.heap.size) (p := p) (p' := p') (f := f) (f' := g) (h4.keep hbb) (Nat.le_trans ((H1.out.2.2.1.trans HS3.out).trans y4).size hbb.size) (by decide) (cell_storeR (vs := [_, _]) hz rfl) (cell_storeR (vs := [_, _]) hz rfl) ((y4.pc HL.out.2).grow hbb) ((p4.low hlow).grow hbb) (by simp only [List.length_cons] at hlr2 hszf; omega)
    have H4 := hid (And.intro hpg (((H1.out.2.2.1.trans HS3.out).trans y4).trans (Stay.of_below (E := E) (a := fv2) hbb)))
    clear hun hpg p4 h4 y4 hbb hz hszf hszg hll hlr2 hlow
    go_wp2_with fail
    refine hco.mono ?_
    rintro e W5 ⟨p2, rfl, p5, h5, y5⟩
    have HF := hid (And.intro p5 (And.intro h5 (H4.out.2.trans y5)))
    clear hco p5 h5 y5
    go_wp2
    go_ret
    have hpf := PF.two H1.out.1 (.inr HJ.out) H4.out.1
    rw [HJ.out] at hpf
    have hs5 := HF.out.2.1
    rw [List.append_assoc] at hs5
    exact .inl ⟨fOp 6 [f, g], p2, fr1 ++ fr2, q2, kb2, fv2, hpf, rfl, HF.out.1, hs5, HF.out.2.2⟩
/-- Every unary, every formula. -/
theorem all_read {E : Env} {c5 : Value} (hn0 : 1 ≤ E.n0) : ∀ n, UnaryIH E c5 n ∧ FormulaIH E c5 n := by
  intro n
  induction n with
  | zero => exact ⟨fun q hq => absurd hq (by omega), fun q hq => absurd hq (by omega)⟩
  | succ n ih =>
    have hu : UnaryIH E c5 (n + 1) := by
      intro q hq w bd fr kb fv h hbd hsg
      by_cases hlt : q.length < n
      · exact ih.1 q hlt w bd fr kb fv h hbd hsg
      · have hqn : q.length = n := by omega
        exact unary_step (by rw [hqn]; exact ih.1) (by rw [hqn]; exact ih.2) hn0 h hbd hsg
    refine ⟨hu, fun q hq w bd fr kb fv h hbd hsg => formula_one ?_ hn0 h hbd hsg⟩
    intro q' hq'
    exact hu q' (by omega)
theorem formula_any {E : Env} {c5 : Value} (hn0 : 1 ≤ E.n0) {l : List Tk} {w : World} {bd : List (List UInt8)} {fr : List Tk} {kb : Nat} {fv : Value} (h : PSt E w l bd fr kb fv c5) (hbd : bd.length + l.length ≤ E.N) (hsg : Sg w) :
    Calls Tryz.prog 94 #[.pointer (some ⟨E.B, 0, none⟩)] w (PieceP E w (PF bd l) bd fr fv c5) := (all_read hn0 (l.length + 1)).2 l (by omega) w bd fr kb fv h hbd hsg
end
section
open Go.RowKit
open Lx (Tk ofL KsAt row_keep row_block)
theorem catch_panicking (p : Addr) (x : Bool) (u : TypeId) (pv : Value) (older : List PanicEntry) (w : World) (hc : w.cell? p = some (.bool x)) (hz : w.frozen? p = false) :
    CallsD Tryz.prog 93 #[.pointer (some p)] (.panicking ({ v := .iface u pv, recovered := false } :: older)) w fun e u' w' =>
      e = .returned (.tuple #[]) ∧ u' = .panicking ({ v := .iface u pv, recovered := true } :: older) ∧ w' = w.setCell p (.bool false) := by
  refine callsD_of_wpS Tryz.func93 rfl fun c₀ cs hu => ?_
  apply wpS_seq
  apply wpS_region
  simp [wpOpsS, go_sem, recoverD, hu, Tryz.ntmps93, Exit.thenS]
  refine wpS_cond (t := true) (by simp [Act.eval, Array.replicate]) ?_
  simp only [if_true]
  apply wpS_region
  simp [wpOpsS, go_sem, hc, hz, bodyPostS, results, Tryz.results93]
theorem catch_idle (p : Addr) (w : World) :
    CallsD Tryz.prog 93 #[.pointer (some p)] .returning w fun e u' w' => e = .returned (.tuple #[]) ∧ u' = .returning ∧ w' = w := by
  refine callsD_of_wpS Tryz.func93 rfl fun c₀ cs hu => ?_
  apply wpS_seq
  apply wpS_region
  simp [wpOpsS, go_sem, recoverD, hu, Tryz.ntmps93, Exit.thenS]
  refine wpS_cond (t := false) (by simp [Act.eval, Array.replicate]) ?_
  simp only [Bool.false_eq_true, if_false]
  refine wpS_of_wp (wp_skip ?_)
  cases c₀
  simp_all [bodyPostS, results, Tryz.results93]
theorem one_facts {X : World} {n ty : Nat} {u : Value} (h : X.heap[n]? = some (.cells #[u] ty (0, 0))) : X.cell? ⟨n, 0, none⟩ = some u ∧ X.frozen? ⟨n, 0, none⟩ = false := by
  constructor <;> simp [World.cell?, World.frozen?, h]
/-- The whole is laid into the parser. -/
theorem PSt.set5 {E : Env} {W : World} {l : List Tk} {bd : List (List UInt8)} {fr : List Tk} {kb : Nat} {fv c5 : Value} (h : PSt E W l bd fr kb fv c5) (u : Value) : PSt E (W.setCell ⟨E.B, 5, none⟩ u) l bd fr kb fv u ∧ Stay E W fv (W.setCell ⟨E.B, 5, none⟩ u) fv := by
  obtain ⟨f, hf, hf2⟩ := h.bnd
  obtain ⟨g, hg, hg2⟩ := h.met
  obtain ⟨rv, b1, b2, b3⟩ := h.bx.ks
  have hB := h.bx.mB
  have ho := only_cell (Below.refl _ W) E.B 5 u
  have hz := heap_setCell_same W E.B 5 _ 55 u b1
  refine ⟨⟨⟨⟨rv, by simpa using hz, KsAt_same b2 ho.size (fun b hb => ho.block b (by have := b3 b hb; have := (Array.getElem?_eq_some_iff.1 b1).1; omega) (by have := b3 b hb; simp; omega)), b3⟩, hB⟩, ⟨f, hf.same (ho.block _ hf.lt (by simpa using h.mbB)), hf2⟩, ⟨g, hg.same (ho.block _ hg.lt (by simpa using h.mmB)), hg2⟩, row_keep h.row (fun r hr => ho.block r (h.fvlt hr).2 (fun hm => by simp at hm; subst hm; exact h.fvB hr)), h.bud, h.bud2, h.mx, h.tok, h.ne, h.lo⟩, Stay.of_only ho (fun r hr => by simp at hr; exact .inl hr)⟩
theorem Bx.only {W W' : World} {B n m A : Nat} {l : List Tk} {c2 c3 c4 c5 : Value} (h : Bx W B n m l c2 c3 c4 c5) (ho : Only [A] W W') (hA : A ≠ B) (hm : m ≤ A) : Bx W' B n m l c2 c3 c4 c5 := by
  obtain ⟨rv, b1, b2, b3⟩ := h.ks
  have hB := h.mB
  have hBl := (Array.getElem?_eq_some_iff.1 b1).1
  exact ⟨⟨rv, (ho.block B hBl (by simpa using fun e => hA e.symm)).trans b1, KsAt_same b2 ho.size (fun b hb => ho.block b (by have := b3 b hb; omega) (by have := b3 b hb; simp; omega)), b3⟩, hB⟩
/-- What reading leaves in the parser. -/
def ReadsP (E : Env) (w : World) (l : List Tk) (fv : Value) (e : Ending) (w' : World) : Prop :=
  (∃ f p fr' kb' fv', PF [] l (.ok f fr' []) ∧ e = .returned (.bool true) ∧ PcP (Good E w.heap.size fv') w' p f ∧ PSt E w' [] [] fr' kb' fv' (.pointer (some ⟨p, 0, none⟩)) ∧ Stay E w fv w' fv') ∨
  (∃ q fv' c5', (PF [] l (.no q) ∨ ∃ f fr', PF [] l (.ok f fr' q) ∧ q ≠ []) ∧ e = .returned (.bool false) ∧ Bx w' E.B E.n E.n0 q (.map (some E.mb)) (.map (some E.mm)) fv' c5' ∧ Stay E w fv w' fv')
theorem reads_any {E : Env} {c5 : Value} (hn0 : 1 ≤ E.n0) {l : List Tk} {w : World} {kb : Nat} {fv : Value} (h : PSt E w l [] [] kb fv c5) (hl : l.length ≤ E.N) (hsg : Sg w) :
    Calls Tryz.prog 55 #[.pointer (some ⟨E.B, 0, none⟩)] w (ReadsP E w l fv) := by
  have hmf : ∀ (fn : Fn) (first cap : Array Value) (w : World), (Instr.makeFunc fn first cap).run Tryz.prog w = .ok (.func fn first cap) w := fun _ _ _ _ => rfl
  have hbx := below_box w (.cells #[.bool false] 4)
  have hz := (MapKept.heap_alloc w (.cells #[.bool false] 4)).1
  have h1 := h.keep hbx
  have s1 := Stay.of_below (E := E) (a := fv) hbx
  have hsg1 := (hsg.stay s1 (h.own0 hn0)).1
  have hA : ¬ Own E fv w.heap.size := h.fresh (Nat.le_refl _)
  have hfo := formula_any hn0 h1 (by simpa using hl) hsg1
  have HN : Hid (E.n0 ≤ w.heap.size) := by show E.n0 ≤ w.heap.size; have := h.ownlt (k := E.B) (.inl rfl); omega
  obtain ⟨A, hAe⟩ : ∃ A, w.heap.size = A := ⟨_, rfl⟩
  obtain ⟨W1, hW1⟩ : ∃ X, w.alloc (.cells #[.bool false] 4) = X := ⟨_, rfl⟩
  rw [hW1] at hfo hz s1
  rw [hAe] at hz hA HN
  have H1 := hid (And.intro hz (And.intro s1 (And.intro hA hAe)))
  have HW := hid hW1
  have HWs : Hid (W1.heap.size = A + 1) := by show W1.heap.size = A + 1; rw [← hW1, World.size_alloc, hAe]
  have HAB : Hid (A ≠ E.B) := by have := (h.ownlt (k := E.B) (.inl rfl)).2; show A ≠ E.B; omega
  clear h hl hsg hbx hz h1 s1 hsg1 hA hW1
  go_enter_defers Tryz.func55, Tryz.ntmps55
  go_wp2_with fail
  try simp only [hAe]
  try rw [show _ = W1 from HW.out]
  refine hfo.mono ?_
  rintro e W2 (⟨f, p, fr', q, kb', fv', hpf, rfl, p2, h2, y2⟩ | ⟨q, fv', hpf, rfl, b2, y2⟩)
  case inr =>
    have hb := y2.blk A (Array.getElem?_eq_some_iff.1 H1.out.1).1 H1.out.2.2.1
    have hbc := hb.1.trans H1.out.1
    obtain ⟨c1, z1⟩ := one_facts hbc
    have ho := only_cell (Below.refl _ W2) A 0 (.bool false)
    have HF := hid (And.intro hpf (And.intro b2 (And.intro (H1.out.2.1.trans y2) (And.intro hb.2 ho))))
    clear hfo hpf b2 y2 hb hbc ho
    go_wp2
    refine leaves_cons (f := 93) (args := #[.pointer (some ⟨A, 0, none⟩)]) (by simp) (by simp [go_sem]) ?_
    refine (catch_panicking ⟨A, 0, none⟩ false 158 _ [] _ c1 z1).mono ?_
    rintro e u' w'' ⟨rfl, rfl, rfl⟩
    refine ⟨.bool false, ?_, .inr ⟨q, fv', c5, .inl HF.out.1, rfl, HF.out.2.1.only HF.out.2.2.2.2 HAB.out HN.out, HF.out.2.2.1.write HF.out.2.2.2.2 (by omega)⟩⟩
    simp [results, Tryz.results55, go_sem, c1]
  case inl =>
  have hb := y2.blk A (Array.getElem?_eq_some_iff.1 H1.out.1).1 H1.out.2.2.1
  obtain ⟨rvb, hbx2⟩ := h2.boxAt
  have x5 : W2.cell? ⟨E.B, 5, none⟩ = some c5 := cell_storeR (vs := [_, _, _, _, _, _]) hbx2 rfl
  have f5 : W2.frozen? ⟨E.B, 5, none⟩ = false := frozen_cells hbx2
  obtain ⟨h3, y3⟩ := h2.set5 (.pointer (some ⟨p, 0, none⟩))
  have hb3 := y3.blk A (Nat.lt_of_lt_of_le (Array.getElem?_eq_some_iff.1 H1.out.1).1 y2.size) hb.2
  have hbc := hb3.1.trans (hb.1.trans H1.out.1)
  obtain ⟨c1, z1⟩ := one_facts hbc
  have hp3 := y3.pc p2
  obtain ⟨W3, hW3⟩ : ∃ X, W2.setCell ⟨E.B, 5, none⟩ (.pointer (some ⟨p, 0, none⟩)) = X := ⟨_, rfl⟩
  rw [hW3] at h3 y3 c1 z1 hp3 hbc
  have hA3 := hb3.2
  have HW3 := hid hW3
  have HF := hid (And.intro hpf (And.intro h3 (And.intro ((H1.out.2.1.trans y2).trans y3) (And.intro hA3 (And.intro hp3 hbc)))))
  cases q with
  | nil =>
    have hfi := finish_yes h3.bx
    clear hfo hpf p2 h2 y2 hb hbx2 h3 y3 hb3 hbc hp3 hW3 hA3
    go_wp2_with fail
    try rw [show _ = W3 from HW3.out]
    refine hfi.mono ?_
    rintro e W3' ⟨rfl, rfl⟩
    clear hfi
    have ho := only_cell (Below.refl _ W3') A 0 (.bool true)
    have hz4 := heap_setCell_same W3' A 0 _ 4 (.bool true) HF.out.2.2.2.2.2
    obtain ⟨d1, -⟩ := one_facts (u := .bool true) (by simpa using hz4)
    have HO := hid ho
    clear ho hz4
    go_wp2
    refine leaves_cons (f := 93) (args := #[.pointer (some ⟨A, 0, none⟩)]) (by simp) (by simp [go_sem]) ?_
    refine (catch_idle ⟨A, 0, none⟩ _).mono ?_
    rintro e u' w'' ⟨rfl, rfl, rfl⟩
    have hA2 := HF.out.2.2.2.1
    refine ⟨.bool true, ?_, .inl ⟨f, p, fr', kb', fv', HF.out.1, rfl, ?_, HF.out.2.1.write HO.out hA2 HN.out, HF.out.2.2.1.write HO.out (by omega)⟩⟩
    · simp [results, Tryz.results55, go_sem, d1]
    · have hws := HWs.out
      exact HF.out.2.2.2.2.1.keep HO.out.size fun j hj hl => ⟨⟨by have := hj.1; omega, hj.2⟩, HO.out.block j hl (by have := hj.1; simp; omega)⟩
  | cons t r =>
    have hfi := finish_no h3.bx
    clear hfo hpf p2 h2 y2 hb hbx2 h3 y3 hb3 hbc hp3 hW3 hA3
    go_wp2_with fail
    try rw [show _ = W3 from HW3.out]
    refine hfi.mono ?_
    rintro e W3' ⟨rfl, rfl⟩
    clear hfi
    have HO := hid (only_cell (Below.refl _ W3') A 0 (.bool false))
    go_wp2
    refine leaves_cons (f := 93) (args := #[.pointer (some ⟨A, 0, none⟩)]) (by simp) (by simp [go_sem]) ?_
    refine (catch_panicking ⟨A, 0, none⟩ false 158 _ [] _ c1 z1).mono ?_
    rintro e u' w'' ⟨rfl, rfl, rfl⟩
    refine ⟨.bool false, ?_, .inr ⟨t :: r, fv', .pointer (some ⟨p, 0, none⟩), .inr ⟨f, fr', HF.out.1, by simp⟩, rfl, HF.out.2.1.bx.only HO.out HAB.out HN.out, HF.out.2.2.1.write HO.out (by omega)⟩⟩
    simp [results, Tryz.results55, go_sem, c1]
end
