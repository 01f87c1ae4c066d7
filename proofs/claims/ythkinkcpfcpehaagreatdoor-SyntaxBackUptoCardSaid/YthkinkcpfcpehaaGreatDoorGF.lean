import Derived.Test.YthkinkcpfcpehaaGreatDoorGE
namespace Go.Proofs.YthkinkcpfcpehaaGreatDoor
set_option maxRecDepth 100000
set_option maxHeartbeats 8000000
open Go.RowKit Go.Shelf
open Lx (Tk ofL row_keep row_block row_slice)
attribute [local go_sem] Oper.semAt_some
/-- Both boxes of quantified. -/
structure Qb (E : Env) (w : World) (fv : Value) (k : Int) (W : World) : Prop where
  b0 : W.heap[w.heap.size]? = some (.cells #[.pointer (some ⟨E.B, 0, none⟩)] 44 (0, 0))
  b1 : W.heap[w.heap.size + 1]? = some (.cells #[.int .i64 k] 3 (0, 0))
  o0 : ¬ Own E fv w.heap.size
  o1 : ¬ Own E fv (w.heap.size + 1)
theorem Qb.stay {E : Env} {w : World} {fv fv' : Value} {k : Int} {W W' : World} (h : Qb E w fv k W) (hs : Stay E W fv W' fv') : Qb E w fv' k W' :=
  have h0 := hs.blk _ (Array.getElem?_eq_some_iff.1 h.b0).1 h.o0
  have h1 := hs.blk _ (Array.getElem?_eq_some_iff.1 h.b1).1 h.o1
  ⟨h0.1.trans h.b0, h1.1.trans h.b1, h0.2, h1.2⟩
theorem Qb.c0 {E : Env} {w : World} {fv : Value} {k : Int} {W : World} (h : Qb E w fv k W) : W.cell? ⟨w.heap.size, 0, none⟩ = some (.pointer (some ⟨E.B, 0, none⟩)) := cell_storeR (vs := [_]) h.b0 rfl
theorem keepRow {E : Env} {m n : Nat} {va : Option Addr} {vc : Nat} {xs : List Value} {X Y : World} {f f' : Value} (hs : Stay E X f Y f') (hr : X.ownsRow E.n0 9 1 (.slice va n vc) n xs) (ho : ∀ g, (Value.slice va n vc).ownBlock = some g → Good E m f g) : Y.ownsRow E.n0 9 1 (.slice va n vc) n xs ∧ (∀ g, (Value.slice va n vc).ownBlock = some g → Good E m f' g) := by
  refine ⟨row_keep hr fun g hg => ?_, fun g hg => ⟨(ho g hg).1, ?_⟩⟩
  · obtain ⟨_, cu, hcu⟩ := row_block hr hg
    exact (hs.blk g (Array.getElem?_eq_some_iff.1 hcu).1 (ho g hg).2).1
  · obtain ⟨_, cu, hcu⟩ := row_block hr hg
    exact (hs.blk g (Array.getElem?_eq_some_iff.1 hcu).1 (ho g hg).2).2
theorem StayI.toStay {E : Env} {I : Nat} {w X W : World} {fv fv0 fv' : Value} (h : Stay E w fv0 X fv) (g : StayI I E X fv W fv') (hI : w.heap.size ≤ I) : Stay E w fv0 W fv' :=
  ⟨g.os.trans h.os, g.tape.trans h.tape, g.output.trans h.output, Nat.le_trans h.size g.size, fun k hk hn => by
    obtain ⟨h1, h2⟩ := h.blk k hk hn
    have hkX := Nat.lt_of_lt_of_le hk h.size
    exact ⟨(g.blk k hkX h2 (by omega)).trans h1, g.own k hkX h2⟩⟩
theorem quantified_any {E : Env} {c5 : Value} {lf : List Tk} (IH : UnaryIH E c5 lf.length) (hh : headOf lf = 2 ∨ headOf lf = 3) {k : Int} (hk : k = if headOf lf = 2 then 7 else 8) {w : World} {bd : List (List UInt8)} {fr : List Tk} {kb : Nat} {fv : Value} (h : PSt E w lf.tail bd fr kb fv c5) (hbd : bd.length + lf.length ≤ E.N) (hn0 : 1 ≤ E.n0) (hsg : Sg w) :
    Calls Tryz.prog 174 #[.pointer (some ⟨E.B, 0, none⟩), .int .i64 k] w (PieceP E w (PU bd lf) bd fr fv c5) := by
  have HN : Hid (E.n0 ≤ w.heap.size) := by show E.n0 ≤ w.heap.size; have := h.ownlt (k := E.B) (.inl rfl); omega
  have hlt : lf.tail.length < lf.length := tail_lt (by omega)
  have HSG := hid (And.intro hsg (h.own0 hn0))
  have HP := hid (And.intro hh (And.intro hk (And.intro hbd hlt)))
  have hb01 := below_box2 w (.cells #[.pointer (some ⟨E.B, 0, none⟩)] 44) (.cells #[.int .i64 k] 3)
  have h1 := h.keep hb01
  have hQ : Qb E w fv k ((w.alloc (.cells #[.pointer (some ⟨E.B, 0, none⟩)] 44)).alloc (.cells #[.int .i64 k] 3)) := by
    have hz1 := (MapKept.heap_alloc (w.alloc (.cells #[.pointer (some ⟨E.B, 0, none⟩)] 44)) (.cells #[.int .i64 k] 3)).1
    rw [World.size_alloc] at hz1
    exact ⟨(Below.heap_alloc _ _ _ (by simp)).trans (MapKept.heap_alloc w _).1, hz1, h.fresh (Nat.le_refl _), h.fresh (by omega)⟩
  obtain ⟨W1, hW1⟩ : ∃ X, (w.alloc (.cells #[.pointer (some ⟨E.B, 0, none⟩)] 44)).alloc (.cells #[.int .i64 k] 3) = X := ⟨_, rfl⟩
  rw [hW1] at h1 hb01 hQ
  have HW1 := hid hW1
  have HQ := hid (And.intro hQ (Stay.of_below (E := E) (a := fv) hb01))
  obtain ⟨l, hl⟩ : ∃ l, lf.tail = l := ⟨_, rfl⟩
  have HL := hid hl
  rw [hl] at h1
  have HIH := hid IH
  clear hsg hn0 IH hh hk hbd hlt hb01 h hW1 hl hQ
  refine (callsIn_wide (n := 9)).1 ?_
  refine callsIn_of_wp_marks Tryz.func174 rfl trivial ?_ rfl
  simp only [Tryz.ntmps174, List.size_toArray, List.length_cons, List.length_nil, Nat.reduceAdd, Nat.reduceSub, Array.replicate_succ, Array.replicate_zero, List.push_toArray, List.append_toArray, List.nil_append, List.cons_append]
  gi_wp2_with fail
  rw [show _ = W1 from HW1.out]
  cases hm : isM [91] l with
  | false =>
    have hmu := pmust_no h1 (ofL [91]) (sign_not (by simp) (by decide) (by decide) h1.tok hm)
    have HM := hid hm
    clear h1 hm
    refine ⟨trivial, (callsIn_wide.2 hmu).mono ?_⟩
    rintro e W2 ⟨rfl, h2, s2⟩
    have HF := hid (And.intro h2.bx (HQ.out.2.trans s2))
    clear hmu h2 s2
    gi_wp2
    exact .inr ⟨l, fv, by have := PU.q0 (bd := bd) HP.out.1 (by rw [HL.out]; exact HM.out); rwa [HL.out] at this, rfl, HF.out.1, HF.out.2⟩
  | true =>
  have HM := hid hm
  obtain ⟨t1, r1, rfl, _, _⟩ := isM_cons hm
  have hmu := pmust_yes h1 (ofL [91]) ((sign_is (by simp) (by decide) (by decide) h1.tok).2 hm)
  clear h1 hm
  refine ⟨trivial, (callsIn_wide.2 hmu).mono ?_⟩
  rintro e W2 ⟨rfl, h2, s2⟩
  have HQ2 := hid (And.intro (HQ.out.1.stay s2) (HQ.out.2.trans s2))
  have c0 := HQ2.out.1.c0
  have HB2 := hid h2.bud
  have hna := names_any h2
  clear hmu h2 s2 HQ
  gi_wp2_with fail
  refine ⟨trivial, (callsIn_wide.2 hna).mono ?_⟩
  rintro e W3 (⟨vs, sl, q1, hv, rfl, ⟨row3, own3, len3⟩, h3, s3⟩ | ⟨q1, hv, rfl, b3, y3⟩)
  case inr =>
    have HF := hid (And.intro hv (And.intro b3 (HQ2.out.2.trans y3)))
    clear hna hv b3 y3 c0
    gi_wp2
    exact .inr ⟨q1, fv, PU.q1 HP.out.1 (by rw [HL.out]; exact HM.out) (by rw [HL.out]; exact HF.out.1), rfl, HF.out.2.1, HF.out.2.2⟩
  case inl =>
  obtain ⟨va, vc, rfl⟩ := row_slice row3
  have HV := hid (And.intro hv (And.intro len3 (PV.cnt hv)))
  have HQ3 := hid (And.intro (HQ2.out.1.stay s3) (And.intro (HQ2.out.2.trans s3) (And.intro row3 (fun g hg => (⟨Nat.le_trans HQ2.out.2.size (own3 g hg).1, (own3 g hg).2⟩ : Good E w.heap.size fv g)))))
  have c3 := HQ3.out.1.c0
  clear hna s3 HQ2 c0 row3 own3 len3
  cases hm : isM [93] q1 with
  | false =>
    have hmu := pmust_no h3 (ofL [93]) (sign_not (by simp) (by decide) (by decide) h3.tok hm)
    have HM2 := hid hm
    clear h3 hm hv
    gi_wp2_with fail
    refine ⟨trivial, (callsIn_wide.2 hmu).mono ?_⟩
    rintro e W4 ⟨rfl, h4, s4⟩
    have HF := hid (And.intro h4.bx (HQ3.out.2.1.trans s4))
    clear hmu h4 s4
    gi_wp2
    exact .inr ⟨q1, fv, PU.q2 HP.out.1 (by rw [HL.out]; exact HM.out) (by rw [HL.out]; exact HV.out.1) HM2.out, rfl, HF.out.1, HF.out.2⟩
  | true =>
  have HM2 := hid hm
  obtain ⟨t2, r2, rfl, _, _⟩ := isM_cons hm
  have hmu := pmust_yes h3 (ofL [93]) ((sign_is (by simp) (by decide) (by decide) h3.tok).2 hm)
  clear h3 hm hv
  gi_wp2_with fail
  refine ⟨trivial, (callsIn_wide.2 hmu).mono ?_⟩
  rintro e W4 ⟨rfl, h4, s4⟩
  have hR4 := keepRow s4 HQ3.out.2.2.1 HQ3.out.2.2.2
  have HQ4 := hid (And.intro (HQ3.out.1.stay s4) (And.intro (HQ3.out.2.1.trans s4) hR4))
  have c4 := HQ4.out.1.c0
  clear hmu s4 HQ3 c3 hR4
  cases hm : isM [58] r2 with
  | false =>
    have hmu := pmust_no h4 (ofL [58]) (sign_not (by simp) (by decide) (by decide) h4.tok hm)
    have HM3 := hid hm
    clear h4 hm
    gi_wp2_with fail
    refine ⟨trivial, (callsIn_wide.2 hmu).mono ?_⟩
    rintro e W5 ⟨rfl, h5, s5⟩
    have HF := hid (And.intro h5.bx (HQ4.out.2.1.trans s5))
    clear hmu h5 s5
    gi_wp2
    exact .inr ⟨r2, fv, PU.q3 HP.out.1 (by rw [HL.out]; exact HM.out) (by rw [HL.out]; exact HV.out.1) HM2.out HM3.out, rfl, HF.out.1, HF.out.2⟩
  | true =>
  have HM3 := hid hm
  obtain ⟨t3, r3, rfl, _, _⟩ := isM_cons hm
  have hmu := pmust_yes h4 (ofL [58]) ((sign_is (by simp) (by decide) (by decide) h4.tok).2 hm)
  clear h4 hm
  gi_wp2_with fail
  refine ⟨trivial, (callsIn_wide.2 hmu).mono ?_⟩
  rintro e W5 ⟨rfl, h5, s5⟩
  have hR5 := keepRow s5 HQ4.out.2.2.1 HQ4.out.2.2.2
  have hbI := below_box W5 (.cells #[.pointer none] 53)
  have sI := Stay.of_below (E := E) (a := fv) hbI
  have h6 := h5.keep hbI
  have hR6 := keepRow sI hR5.1 hR5.2
  have hQ6 := (HQ4.out.1.stay s5).stay sI
  have hI6 := (MapKept.heap_alloc W5 (.cells #[.pointer none] 53)).1
  have hIo : ¬ Own E fv W5.heap.size := h5.fresh (Nat.le_refl _)
  have hIw : w.heap.size ≤ W5.heap.size := (HQ4.out.2.1.trans s5).size
  have hIr : ∀ g, (Value.slice va vs.length vc).ownBlock = some g → g ≠ W5.heap.size := fun g hg => by
    obtain ⟨_, cu, hcu⟩ := row_block hR5.1 hg
    have := (Array.getElem?_eq_some_iff.1 hcu).1
    omega
  have hb0I : w.heap.size + 1 < W5.heap.size := (Array.getElem?_eq_some_iff.1 (HQ4.out.1.stay s5).b1).1
  have y6 := (HQ4.out.2.1.trans s5).trans sI
  obtain ⟨W6, hW6⟩ : ∃ X, W5.alloc (.cells #[.pointer none] 53) = X := ⟨_, rfl⟩
  rw [hW6] at h6 hR6 hQ6 hI6 y6
  obtain ⟨I, hI⟩ : ∃ I, W5.heap.size = I := ⟨_, rfl⟩
  rw [hI] at hI6 hIo hIw hIr hb0I
  have HW6 := hid hW6
  have HI := hid hI
  clear hW6 hI hmu s5 HQ4 c4 hR5 hbI sI
  have hmx := h6.mx
  have hbud6 := h6.bud
  have hvc := HV.out.2.2
  have hPN := HP.out.2.2.1
  have hlt3 := HP.out.2.2.2
  rw [HL.out] at hlt3
  simp only [List.length_cons] at hvc hlt3
  have hnl : vs.length ≤ 2097155 := by have := h6.bud; omega
  obtain ⟨rvb, hbx6⟩ := h6.boxAt
  have x2 : W6.cell? ⟨E.B, 2, none⟩ = some (.map (some E.mb)) := cell_storeR (vs := [_, _, _, _, _, _]) hbx6 rfl
  have x3 : W6.cell? ⟨E.B, 3, none⟩ = some (.map (some E.mm)) := cell_storeR (vs := [_, _, _, _, _, _]) hbx6 rfl
  have xb : W6.cell? ⟨w.heap.size, 0, none⟩ = some (.pointer (some ⟨E.B, 0, none⟩)) := hQ6.c0
  have hbud2 : kb + vs.length + r3.length ≤ E.N := by have := HB2.out; omega
  have hwi := within_any (c5 := c5) (l := r3) (vs := vs) (p1 := .pointer (some ⟨w.heap.size, 0, none⟩)) (p2 := .pointer (some ⟨I, 0, none⟩)) (I := I) h6 hR6.1 (fun g hg => (hR6.2 g hg).2) HV.out.2.1 hbud2 (by omega) (Array.getElem?_eq_some_iff.1 hI6).1 hIr
    (Q := fun fr' q' fv' X w' => ∃ f p, PU (vs ++ bd) r3 (.ok f fr' q') ∧ w'.heap[I]? = some (.cells #[.pointer (some ⟨p, 0, none⟩)] 53 (0, 0)) ∧ PcP (Good E X.heap.size fv') w' p f)
    (Z := fun x X w' => ∃ q' fv', x = misfit ∧ PU (vs ++ bd) r3 (.no q') ∧ Bx w' E.B E.n E.n0 q' (.map (some E.mb)) (.map (some E.mm)) fv' c5 ∧ Stay E X fv w' fv')
    (fun X hX hS => by
      have hb0 := hS.blk _ (Array.getElem?_eq_some_iff.1 hQ6.b0).1 hQ6.o0
      have hII := hS.blk I (Array.getElem?_eq_some_iff.1 hI6).1 hIo
      exact inner_any HIH.out (by omega) hX (by rw [List.length_append]; omega) (hb0.1.trans hQ6.b0) (hII.1.trans hI6) hII.2 (Nat.le_trans HN.out hIw) (HSG.out.1.stay (y6.trans hS) HSG.out.2).1)
  have H6 := hid (And.intro hQ6 (And.intro hI6 (And.intro hIo (And.intro y6 (And.intro hR6 hb0I)))))
  rw [← HW6.out] at x2 x3 xb
  clear h6 hQ6 hI6 hIo y6 hR6 hbx6 hbud6 hPN hlt3 hbud2
  gi_wp2_with fail
  rw [show _ = W6 from HW6.out]
  simp only [show _ = I from HI.out]
  refine ⟨trivial, (callsIn_wide.2 hwi).mono ?_⟩
  rintro e W8 (⟨rfl, X7, W7, fr', q', fv', hS7, ⟨f, p, hpu, hI7, hp7⟩, hSI, ⟨kb', h8⟩, y8⟩ | ⟨x, X7, rfl, hS7, q', fv', rfl, hpu, hb, hy⟩)
  case inr =>
    have HF := hid (And.intro hpu (And.intro hb (H6.out.2.2.2.1.trans (hS7.trans hy))))
    clear hwi hpu hb hy hS7
    gi_wp2
    exact .inr ⟨q', fv', PU.q4 HP.out.1 (by rw [HL.out]; exact HM.out) (by rw [HL.out]; exact HV.out.1) HM2.out HM3.out HF.out.1, rfl, HF.out.2.1, HF.out.2.2⟩
  case inl =>
  have hIl6 := (Array.getElem?_eq_some_iff.1 H6.out.2.1).1
  have hIX := hS7.blk I hIl6 H6.out.2.2.1
  have hIXl : I < X7.heap.size := Nat.lt_of_lt_of_le hIl6 hS7.size
  have hI7o : ¬ Own E fv' I := hSI.own I hIXl hIX.2
  have hI8 := y8.blk I (Array.getElem?_eq_some_iff.1 hI7).1 hI7o
  have hI8c := hI8.1.trans hI7
  have hp8 : PcP (fun j => Good E w.heap.size fv' j ∧ j ≠ I ∧ j ∉ ([] : List Nat)) W8 p f := (y8.pc hp7).keep (Nat.le_refl _) fun j hj hl => ⟨⟨⟨by have := hj.1; have := (H6.out.2.2.2.1.trans hS7).size; omega, hj.2⟩, by have := hj.1; omega, by simp⟩, rfl⟩
  have y80 : Stay E w fv W8 fv' := (StayI.toStay (H6.out.2.2.2.1.trans hS7) hSI hIw).trans y8
  have hQX := H6.out.1.stay hS7
  have hb1X := (Array.getElem?_eq_some_iff.1 hQX.b1).1
  have hb18 : W8.heap[w.heap.size + 1]? = some (.cells #[.int .i64 k] 3 (0, 0)) := by
    have e1 := hSI.blk _ hb1X hQX.o1 (by omega)
    have o1 := hSI.own _ hb1X hQX.o1
    exact (y8.blk _ (Nat.lt_of_lt_of_le hb1X hSI.size) o1).1.trans (e1.trans hQX.b1)
  have hRX := keepRow hS7 H6.out.2.2.2.2.1.1 H6.out.2.2.2.2.1.2
  have hR7 : W7.ownsRow E.n0 9 1 (.slice va vs.length vc) vs.length (flS vs) := row_keep hRX.1 fun g hg => by
    obtain ⟨_, cu, hcu⟩ := row_block hRX.1 hg
    exact hSI.blk g (Array.getElem?_eq_some_iff.1 hcu).1 (hRX.2 g hg).2 (hIr g hg)
  have hR7o : ∀ g, (Value.slice va vs.length vc).ownBlock = some g → Good E w.heap.size fv' g := fun g hg => by
    obtain ⟨_, cu, hcu⟩ := row_block hRX.1 hg
    exact ⟨(hRX.2 g hg).1, hSI.own g (Array.getElem?_eq_some_iff.1 hcu).1 (hRX.2 g hg).2⟩
  have hR8 := keepRow y8 hR7 hR7o
  have H8 := hid (And.intro hpu (And.intro hI8c (And.intro hp8 (And.intro y80 (And.intro hb18 (And.intro hR8 (And.intro h8 (And.intro hI8.2 (show I < W8.heap.size from (Array.getElem?_eq_some_iff.1 hI8c).1)))))))))
  clear hwi hpu hI7 hp7 hSI h8 y8 hS7 hIX hIXl hI7o hI8 hI8c hp8 y80 hQX hb1X hb18 hRX hR7 hR7o hR8 H6 x2 x3 xb
  gi_wp2_with fail
  refine ⟨trivial, (callsIn_wide.2 (backward_any va vs.length vc W8)).mono ?_⟩
  rintro e w' ⟨rfl, rfl⟩
  obtain ⟨Bk, hBk⟩ : ∃ B, W8.heap.size = B := ⟨_, rfl⟩
  obtain ⟨W9, hW9⟩ : ∃ X, W8.alloc (.cells #[.slice va vs.length vc] 38) = X := ⟨_, rfl⟩
  simp only [hBk]
  rw [hW9]
  have HW9 := hid (And.intro hW9 hBk)
  clear hW9 hBk
  have hb9 : Below W8.heap.size W8 W9 := by rw [← HW9.out.1]; exact below_box W8 _
  have hs9 : W8.heap.size + 1 = W9.heap.size := by rw [← HW9.out.1, World.size_alloc]
  have hBkI : I < Bk := by have := H8.out.2.2.2.2.2.2.2.2; have := HW9.out.2; omega
  have hBk9 : W9.heap[Bk]? = some (.cells #[.slice va vs.length vc] 38 (0, 0)) := by rw [← HW9.out.1, ← HW9.out.2]; exact (MapKept.heap_alloc W8 _).1
  have h9 := H8.out.2.2.2.2.2.2.1.keep hb9
  have hrow9 := Lx.row_below H8.out.2.2.2.2.2.1.1 hb9
  have hI8l := H8.out.2.2.2.2.2.2.2.2
  have hRQ0 : RQ E w fv W9.heap.size I (w.heap.size + 1) k f q' bd (fr ++ fr') kb' fv' c5 [] [] W9 :=
    ⟨⟨p, (hb9.block I H8.out.2.2.2.2.2.2.2.2).trans H8.out.2.1, H8.out.2.2.1.grow hb9⟩, h9, H8.out.2.2.2.1.trans (Stay.of_below hb9), fun r hr => (by cases hr), Nat.le_refl _, (hb9.block _ (Array.getElem?_eq_some_iff.1 H8.out.2.2.2.2.1).1).trans H8.out.2.2.2.2.1, ⟨hIw, by omega, by omega, HN.out, by omega⟩, fun j hj => h9.fresh hj, H8.out.2.2.2.2.2.2.2.1⟩
  have hDl : ∀ b, (b = Bk ∨ (Value.slice va vs.length vc).ownBlock = some b) → b < W9.heap.size ∧ b ≠ I := by
    rintro b (rfl | hb)
    · exact ⟨(Array.getElem?_eq_some_iff.1 hBk9).1, by omega⟩
    · obtain ⟨_, cu, hcu⟩ := row_block hrow9 hb
      exact ⟨(Array.getElem?_eq_some_iff.1 hcu).1, hIr b hb⟩
  have hrowc : ∀ i (h : i < vs.length), ∃ g, va = some ⟨g, 0, none⟩ ∧ (g = Bk ∨ (Value.slice va vs.length vc).ownBlock = some g) ∧ W9.cell? ⟨g, i, none⟩ = some (.string (ofL vs[i])) := fun i hi => by
    obtain ⟨g, hg, hc⟩ := row_name hrow9 hi
    exact ⟨g, hg, .inr (by rw [hg]; rfl), hc⟩
  have HRQ := hid (And.intro hRQ0 hDl)
  have HRc := hid (And.intro hrowc hBk9)
  have HSZ : Hid (f.size ≤ 6291465) := by
    have h1 := PU.gr H8.out.1
    show f.size ≤ 6291465
    have := HB2.out
    omega
  clear hI8l hb9 hs9 hBk9 h9 hrow9 hRQ0 hDl hrowc
  gi_wp2
  refine range_g (iv := ivB) (Ok := fun _ _ => True) (D := fun b => b = Bk ∨ (Value.slice va vs.length vc).ownBlock = some b) (nv := 2) (w0 := W9) (all := vs.reverse) (E0 := []) (gf := 208) (lb := #[.pointer (some ⟨Bk, 0, none⟩)]) 9 rfl (enters_of Tryz.func208 (by kernel_rfl) rfl) rfl (fun _ _ => rfl) (fun b hb => (HRQ.out.2 b hb).1)
    (fun V hV => backw_any _ W9 Bk vs va vc V (fun b hb => hV.block b (HRQ.out.2 b hb).1) (fun b hb => Nat.lt_of_lt_of_le (HRQ.out.2 b hb).1 hV.size) (.inl rfl) HRc.out.2 hnl HRc.out.1)
    (RQ E w fv W9.heap.size I (w.heap.size + 1) k f q' bd (fr ++ fr') kb' fv' c5) (fun _ _ _ => False) RQ.abide (fun _ _ _ _ _ _ h => h.elim) HRQ.out.1 (fun L pre V h r hr => (h.els r hr).2)
    (fun x y a' V => a' = { tmps := #[.pointer (some ⟨E.B, 0, none⟩), .int .i64 k, .pointer (some ⟨w.heap.size, 0, none⟩), .pointer (some ⟨w.heap.size + 1, 0, none⟩), .pointer none, .slice va vs.length vc, .pointer (some ⟨I, 0, none⟩), undef, .string (ofL x), .pointer (some ⟨E.B, 0, none⟩), .pointer (some ⟨E.B, 0, none⟩), .pointer (some ⟨E.B, 0, none⟩), .tuple #[], .pointer (some ⟨E.B, 0, none⟩), .pointer (some ⟨E.B, 0, none⟩), .func (.func 196) #[.pointer (some ⟨E.B, 0, none⟩)] #[], .slice va vs.length vc, .pointer (some ⟨E.B, 0, none⟩), .pointer (some ⟨E.B, 0, none⟩), .pointer (some ⟨E.B, 0, none⟩), .tuple #[], .pointer (some ⟨E.B, 0, none⟩), .pointer (some ⟨E.B, 0, none⟩), .pointer (some ⟨E.B, 0, none⟩), .tuple #[], .pointer (some ⟨E.B, 0, none⟩), .pointer (some ⟨E.B, 0, none⟩), .pointer (some ⟨E.B, 2, none⟩), .agg #[.map (some E.mb), .map (some E.mm)], .slice va vs.length vc, .func (.func 197) #[] #[.pointer (some ⟨w.heap.size, 0, none⟩), .pointer (some ⟨I, 0, none⟩)], .tuple #[], .slice va vs.length vc, .func (.func 208) #[] #[.pointer (some ⟨Bk, 0, none⟩)], .int .i64 y, .string (ofL x), undef, undef, undef, undef, undef, undef], defers := [] })
    (fun x y a' V l r o h hl => h)
    ?assign ?body ?done ?stop
  case assign =>
    intro l x y V K hok hK
    gi_wp2
    exact hK _ _ (Below.refl _ _) rfl
  case body =>
    rintro l L pre x y a' V hQ hlL hw hok ⟨rest, hrest⟩ rfl
    obtain ⟨⟨p1, hI1, hp1⟩, st1, stay1, els1, siz1, kd1, low1, new1, Io1⟩ := hQ
    have d0 : V.cell? ⟨w.heap.size + 1, 0, none⟩ = some (.int .i64 k) := cell_storeR (vs := [_]) kd1 rfl
    have d1 : V.cell? ⟨I, 0, none⟩ = some (.pointer (some ⟨p1, 0, none⟩)) := cell_storeR (vs := [_]) hI1 rfl
    have hk1 : k ≠ 1 := by rw [HP.out.2.1]; split <;> decide
    have hbV := below_box V (.cells #[.pointer (some ⟨p1, 0, none⟩)] 53)
    have hpl : pre.length ≤ 2097155 := by have := congrArg List.length hrest; simp at this; omega
    have hco := pcompG1 (P := fun j => Good E w.heap.size fv' j ∧ j ≠ I ∧ j ∉ L) (X := V.alloc (.cells #[.pointer (some ⟨p1, 0, none⟩)] 53)) (k := k) (nm := ofL x) (p := p1) (g := V.heap.size) (f := foldQ k pre f) (fun j hj => ⟨⟨by have := hbV.size; omega, new1 j (by have := hbV.size; omega)⟩, by have := hbV.size; omega, fun hm => by have := els1 j hm; have := hbV.size; omega⟩) hk1 (cell_storeR (vs := [_]) (MapKept.heap_alloc V _).1 rfl) (hp1.grow hbV) (by rw [foldQ_size hk1]; have := HSZ.out; omega)
    have HV1 := hid (And.intro hI1 (And.intro st1 (And.intro stay1 (And.intro els1 (And.intro siz1 (And.intro kd1 (And.intro low1 (And.intro new1 (And.intro Io1 hbV)))))))))
    have hIl : I < V.heap.size := by omega
    clear hI1 hp1 st1 stay1 els1 siz1 kd1 low1 new1 Io1 hbV hok hw hpl
    gi_wp2_with fail
    refine ⟨trivial, (CallsIn.inRound l (callsIn_wide.2 hco)).mono ?_⟩
    rintro e V2 ⟨p2, rfl, hp2, hb2⟩
    obtain ⟨hI1, st1, stay1, els1, siz1, kd1, low1, new1, Io1, hbV⟩ := HV1.out
    have hbb : Below V.heap.size V V2 := hbV.trans (hb2.mono hbV.size)
    have hI2 := (hbb.block I hIl).trans hI1
    have e0 : V2.cell? ⟨I, 0, none⟩ = some (.pointer (some ⟨p1, 0, none⟩)) := cell_storeR (vs := [_]) hI2 rfl
    have e1 : V2.frozen? ⟨I, 0, none⟩ = false := frozen_cells hI2
    have ho := only_cell (Below.refl _ V2) I 0 (.pointer (some ⟨p2, 0, none⟩))
    have hI3 := heap_setCell_same V2 I 0 _ 53 (.pointer (some ⟨p2, 0, none⟩)) hI2
    have far : ∀ b, b < V.heap.size → b ≠ I → (V2.setCell ⟨I, 0, none⟩ (.pointer (some ⟨p2, 0, none⟩))).heap[b]? = V.heap[b]? := fun b hb hne => (ho.block b (Nat.lt_of_lt_of_le hb hbb.size) (by simpa using hne)).trans (hbb.block b hb)
    have hR3 : RQ E w fv W9.heap.size I (w.heap.size + 1) k f q' bd (fr ++ fr') kb' fv' c5 L (pre ++ [x]) (V2.setCell ⟨I, 0, none⟩ (.pointer (some ⟨p2, 0, none⟩))) := by
      refine ⟨⟨p2, by simpa using hI3, ?_⟩, (st1.keep hbb).write ho Io1 (Nat.le_trans low1.2.2.2.1 low1.1), (stay1.trans (Stay.of_below hbb)).write ho low1.1, fun r hr => ?_, Nat.le_trans siz1 (Nat.le_trans hbb.size ho.size), (far _ (by omega) (by omega)).trans kd1, low1, new1, Io1⟩
      · rw [foldQ_snoc]
        exact hp2.keep ho.size fun j hj hl => ⟨hj, ho.block j hl (by simpa using hj.2.1)⟩
      · have := els1 r hr; have := hbb.size; have := ho.size; omega
    have hKD : KeptD (fun b => b = Bk ∨ (Value.slice va vs.length vc).ownBlock = some b) L V (V2.setCell ⟨I, 0, none⟩ (.pointer (some ⟨p2, 0, none⟩))) :=
      ⟨Nat.le_trans hbb.size ho.size, fun b hb => far b (Nat.lt_of_lt_of_le (HRQ.out.2 b hb).1 siz1) (HRQ.out.2 b hb).2, fun r hr => far r (els1 r hr).2 (by have := (els1 r hr).1; have := low1.2.1; omega)⟩
    have HF := hid (And.intro hKD hR3)
    clear hI1 st1 stay1 els1 siz1 kd1 low1 new1 Io1 hbV hbb hI2 ho hI3 far hR3 hKD hp2 hb2 hco d0 d1
    gi_wp2
    exact HF.out
  case done =>
    rintro Dd L W hDd hQ hDL hK
    obtain ⟨⟨p1, hI1, hp1⟩, st1, stay1, els1, siz1, kd1, low1, new1, Io1⟩ := hQ
    have d1 : W.cell? ⟨I, 0, none⟩ = some (.pointer (some ⟨p1, 0, none⟩)) := cell_storeR (vs := [_]) hI1 rfl
    have hQ2 : RQ E w fv W9.heap.size I (w.heap.size + 1) k f q' bd (fr ++ fr') kb' fv' c5 L vs.reverse (W.putObj Dd (.deferred none)) := RQ.abide.put _ ⟨⟨p1, hI1, hp1⟩, st1, stay1, els1, siz1, kd1, low1, new1, Io1⟩ hDL
    have HQ9 := hid (And.intro hQ2 (And.intro hI1 (And.intro low1.2.1 (els1 Dd hDL).1)))
    clear hI1 hp1 st1 stay1 els1 siz1 kd1 low1 new1 Io1 hQ2
    gi_wp2
    refine ⟨by simp, .inl ⟨_, _, rfl, run_takeDeferred hK, ?_⟩⟩
    refine ⟨_, results_tmp rfl _ _ _, ?_⟩
    obtain ⟨⟨⟨p3, hI3, hp3⟩, st3, stay3, -, -, -, low3, -, -⟩, hI1, hIm, hDm⟩ := HQ9.out
    have hIe : (W.putObj Dd (.deferred none)).heap[I]? = _ := (World.putObj_heap_other (by omega)).trans hI1
    rw [hI3] at hIe
    have hpe : p3 = p1 := by simpa using hIe
    subst hpe
    have hq5 := PU.q5 HP.out.1 (by rw [HL.out]; exact HM.out) (by rw [HL.out]; exact HV.out.1) HM2.out HM3.out H8.out.1
    rw [← HP.out.2.1] at hq5
    rw [foldQ_rev] at hp3
    exact .inl ⟨wrapQ k vs f, p3, fr', q', kb', fv', hq5, rfl, hp3.keep (Nat.le_refl _) (fun j hj _ => ⟨hj.1, rfl⟩), st3, stay3⟩
  case stop => exact fun _ _ _ _ _ h => h.elim
