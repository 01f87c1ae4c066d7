import Derived.Test.YthkinkcpfcpehaaGreatDoorFV
namespace Go.Proofs.YthkinkcpfcpehaaGreatDoor
set_option maxRecDepth 100000
set_option maxHeartbeats 8000000
section
open Go.RowKit Go.Maps
open Lx (Tk ofL KsAt flK flK_snoc row_keep row_block row_slice)
theorem Nm.put_old {W : World} {b n : Nat} {f : ByteArray → Option Int} (h : Nm W b f n) (hn : n < maxLen) {s : ByteArray} (hs : s.size ≤ maxLen) (c : Int) (hx : (f s).isSome = true) : ∃ W', (Instr.mapUpdate 50 (.map (some b)) (.string s) (.int .i64 c)).run Tryz.prog W = .ok () W' ∧ Nm W' b (fput f s c) n ∧ Only [b] W W' := by
  obtain ⟨k, hk, hm⟩ := h.m
  obtain ⟨W', h1, h2, h3⟩ := hm.put keyed9 Tryz.underlying50 (by omega) (key9 hs) (.int .i64 c)
  rw [smp_put] at h2
  refine ⟨W', h1, ⟨_, ?_, h2⟩, Only.of_grown h3 (fun r e => by cases e; simp)⟩
  obtain ⟨v, hv⟩ := Option.isSome_iff_exists.1 hx
  have : smp f (.string s) = some (.int .i64 v) := by simp [smp, hv]
  rw [this]
  exact hk
section
variable {E : Env} {W W' : World} {l : List Tk} {bd bd' : List (List UInt8)} {fr : List Tk} {kb kb' : Nat} {fv c5 : Value}
theorem PSt.put (h : PSt E W l bd fr kb fv c5) {f' : ByteArray → Option Int} (hf : Nm W' E.mb f' kb') (hc : ∀ s, (f' (ofL s)).getD 0 = (bd'.count s : Nat)) (ho : Only [E.mb] W W') (hb : kb' + l.length ≤ E.N) : PSt E W' l bd' fr kb' fv c5 ∧ Stay E W fv W' fv := by
  obtain ⟨g, hg, hg2⟩ := h.met
  obtain ⟨rv, b1, b2, b3⟩ := h.bx.ks
  have hBl := (Array.getElem?_eq_some_iff.1 b1).1
  have hlo := h.lo.1
  refine ⟨⟨⟨⟨rv, (ho.block _ hBl (by simpa using fun e => h.mbB e.symm)).trans b1, KsAt_same b2 ho.size (fun b hb => ?_), b3⟩, h.bx.mB⟩, ⟨f', hf, hc⟩, ⟨g, hg.same (ho.block _ hg.lt (by simpa using fun e => h.ne e.symm)), hg2⟩, ?_, hb, h.bud2, h.mx, h.tok, h.ne, h.lo⟩, Stay.of_only ho (fun r hr => by simp at hr; exact .inr (.inl hr))⟩
  · have := b3 b hb
    have := h.bx.mB
    exact ho.block b (by omega) (by simp; omega)
  · exact row_keep h.row (fun r hr => ho.block r (h.fvlt hr).2 (fun hm => by simp at hm; subst hm; exact h.fvb hr))
end
theorem count_step (vs bd : List (List UInt8)) {i : Nat} (hi : i < vs.length) (s : List UInt8) : (vs.take (i + 1) ++ bd).count s = (vs.take i ++ bd).count s + if s = vs[i] then 1 else 0 := by
  rw [List.take_succ_eq_append_getElem hi, List.count_append, List.count_append, List.count_append, List.count_cons, List.count_nil]
  by_cases h : s = vs[i]
  · subst h; simp; omega
  · rw [if_neg h, if_neg (by simpa using fun e => h e.symm)]; omega
theorem count_drop (vs bd : List (List UInt8)) {i : Nat} (hi : i < vs.length) (s : List UInt8) : (vs.drop i ++ bd).count s = (vs.drop (i + 1) ++ bd).count s + if s = vs[i] then 1 else 0 := by
  rw [List.drop_eq_getElem_cons hi, List.cons_append, List.count_cons]
  by_cases h : s = vs[i]
  · subst h; simp
  · rw [if_neg h, if_neg (by simpa using fun e => h e.symm)]
theorem wrapm {n : Int} (h0 : 1 ≤ n) (h : n ≤ 1048576000) : wrap64 (n - 1) = n - 1 := by unfold wrap64; omega
/-- A row of names, at a number. -/
theorem row_name {W : World} {n0 : Nat} {a : Option Addr} {c : Nat} {vs : List (List UInt8)} (h : W.ownsRow n0 9 1 (.slice a vs.length c) vs.length (flS vs)) {i : Nat} (hi : i < vs.length) : ∃ g, a = some ⟨g, 0, none⟩ ∧ W.cell? ⟨g, i, none⟩ = some (.string (ofL vs[i])) := by
  obtain ⟨hl, ⟨e, h0⟩ | ⟨g, cap, cur, e, hb, hg, hc, hm, hsz, ht⟩⟩ := h
  · omega
  · cases e
    refine ⟨g, rfl, ?_⟩
    have hj : (flS vs)[i]? = some (.string (ofL vs[i])) := by simp [flS, hi]
    rw [← ht, List.getElem?_take, if_pos (by omega), Array.getElem?_toList] at hj
    simp [World.cell?, hg, hj]
theorem fput_inc {f : ByteArray → Option Int} {bd bd' : List (List UInt8)} (hf : ∀ s, (f (ofL s)).getD 0 = (bd.count s : Nat)) {s0 : List UInt8} (hc : ∀ s, bd'.count s = bd.count s + if s = s0 then 1 else 0) (s : List UInt8) : (fput f (ofL s0) ((f (ofL s0)).getD 0 + 1) (ofL s)).getD 0 = (bd'.count s : Nat) := by
  rw [hc]
  unfold fput
  by_cases h : s = s0
  · subst h; rw [if_pos rfl, if_pos rfl, hf]; simp
  · rw [if_neg (fun e => h (ofL_inj e)), if_neg h, hf]; simp
theorem fput_dec {f : ByteArray → Option Int} {bd bd' : List (List UInt8)} (hf : ∀ s, (f (ofL s)).getD 0 = (bd.count s : Nat)) {s0 : List UInt8} (hc : ∀ s, bd.count s = bd'.count s + if s = s0 then 1 else 0) (s : List UInt8) : (fput f (ofL s0) ((f (ofL s0)).getD 0 - 1) (ofL s)).getD 0 = (bd'.count s : Nat) := by
  unfold fput
  by_cases h : s = s0
  · subst h; rw [if_pos rfl, hf, hc, if_pos rfl]; simp
  · rw [if_neg (fun e => h (ofL_inj e)), hf, hc, if_neg h]; simp
/-- What stays besides one block more. -/
structure StayI (I : Nat) (E : Env) (W : World) (fv : Value) (W' : World) (fv' : Value) : Prop where
  os : W'.os = W.os
  tape : W'.tape = W.tape
  output : W'.output = W.output
  size : W.heap.size ≤ W'.heap.size
  blk : ∀ k, k < W.heap.size → ¬ Own E fv k → k ≠ I → W'.heap[k]? = W.heap[k]?
  own : ∀ k, k < W.heap.size → ¬ Own E fv k → ¬ Own E fv' k
/-- What the rounds of within keep. -/
structure WiI (E : Env) (w : World) (R : Nat) (l : List Tk) (bd : List (List UInt8)) (fr : List Tk) (kb : Nat) (fv c5 : Value) (sl : Value) (vs : List (List UInt8)) (W : World) : Prop where
  st : PSt E W l bd fr kb fv c5
  stay : Stay E w fv W fv
  box : W.heap[R]? = some (.cells #[.map (some E.mb), .map (some E.mm)] 52 (0, 0))
  bR : ¬ Own E fv R
  row : W.ownsRow E.n0 9 1 sl vs.length (flS vs)
  own : ∀ g, sl.ownBlock = some g → ¬ Own E fv g
theorem WiI.put {E : Env} {w W W' : World} {R : Nat} {l : List Tk} {bd bd' : List (List UInt8)} {fr : List Tk} {kb kb' : Nat} {fv c5 sl : Value} {vs : List (List UInt8)} (h : WiI E w R l bd fr kb fv c5 sl vs W) {f' : ByteArray → Option Int} (hf : Nm W' E.mb f' kb') (hc : ∀ s, (f' (ofL s)).getD 0 = (bd'.count s : Nat)) (ho : Only [E.mb] W W') (hb : kb' + l.length ≤ E.N) : WiI E w R l bd' fr kb' fv c5 sl vs W' := by
  obtain ⟨h1, h2⟩ := h.st.put hf hc ho hb
  refine ⟨h1, h.stay.trans h2, (h2.blk R (Array.getElem?_eq_some_iff.1 h.box).1 h.bR).1.trans h.box, h.bR, row_keep h.row (fun g hg => ?_), h.own⟩
  obtain ⟨_, cu, hcu⟩ := row_block h.row hg
  exact (h2.blk g (Array.getElem?_eq_some_iff.1 hcu).1 (h.own g hg)).1
theorem within_any {E : Env} {c5 : Value} {I : Nat} {l : List Tk} {w : World} {bd : List (List UInt8)} {fr : List Tk} {kb : Nat} {fv sl : Value} {vs : List (List UInt8)} {p1 p2 : Value} (h : PSt E w l bd fr kb fv c5) (hrow : w.ownsRow E.n0 9 1 sl vs.length (flS vs)) (hown : ∀ g, sl.ownBlock = some g → ¬ Own E fv g) (hlen : ∀ s ∈ vs, s.length ≤ maxLen) (hbud : kb + vs.length + l.length ≤ E.N) (hbd : vs.length + bd.length ≤ E.N) (hIl : I < w.heap.size) (hIr : ∀ g, sl.ownBlock = some g → g ≠ I)
    {Q : List Tk → List Tk → Value → World → World → Prop} {Z : List PanicEntry → World → World → Prop}
    (hw : ∀ X, PSt E X l (vs ++ bd) fr (kb + vs.length) fv c5 → Stay E w fv X fv → Calls Tryz.prog 197 #[p1, p2] X fun e w' => (e = .returned (.tuple #[]) ∧ ∃ fr' q fv', Q fr' q fv' X w' ∧ (∃ kb', PSt E w' q (vs ++ bd) (fr ++ fr') kb' fv' c5) ∧ StayI I E X fv w' fv') ∨ (∃ x, e = .panicked x ∧ Z x X w')) :
    Calls Tryz.prog 85 #[.agg #[.map (some E.mb), .map (some E.mm)], sl, .func (.func 197) #[] #[p1, p2]] w fun e w' =>
      (e = .returned (.tuple #[]) ∧ ∃ X W2 fr' q fv', Stay E w fv X fv ∧ Q fr' q fv' X W2 ∧ StayI I E X fv W2 fv' ∧ (∃ kb', PSt E w' q bd (fr ++ fr') kb' fv' c5) ∧ Stay E W2 fv' w' fv') ∨ (∃ x X, e = .panicked x ∧ Stay E w fv X fv ∧ Z x X w') := by
  obtain ⟨va, vc, rfl⟩ := row_slice hrow
  have hb0 := below_box w (.cells #[.map (some E.mb), .map (some E.mm)] 52)
  have hz := (MapKept.heap_alloc w (.cells #[.map (some E.mb), .map (some E.mm)] 52)).1
  have hW : WiI E w w.heap.size l ([].take 0 ++ bd) fr (kb + 0) fv c5 (.slice va vs.length vc) vs (w.alloc (.cells #[.map (some E.mb), .map (some E.mm)] 52)) := ⟨h.keep hb0, Stay.of_below hb0, hz, h.fresh (Nat.le_refl _), Lx.row_below hrow hb0, hown⟩
  have hmx := h.mx
  have hmb := max_big
  obtain ⟨W0, hW0⟩ : ∃ X, w.alloc (.cells #[.map (some E.mb), .map (some E.mm)] 52) = X := ⟨_, rfl⟩
  obtain ⟨R, hR⟩ : ∃ R, w.heap.size = R := ⟨_, rfl⟩
  rw [hW0, hR] at hW
  have HW0 : Hid (WiI E w R l (vs.take 0 ++ bd) fr (kb + 0) fv c5 (.slice va vs.length vc) vs W0) := hW
  have HHW := hid hw
  have HH := hid (And.intro hlen (And.intro hbud hbd))
  obtain ⟨n, hn⟩ : ∃ n, vs.length = n := ⟨_, rfl⟩
  rw [hn] at HW0 ⊢
  have hn5 : n ≤ 2097155 := by omega
  clear h hrow hown hlen hbud hbd hw hb0 hz hW
  go_enter Tryz.func85, Tryz.ntmps85
  go_upto_region 1 with fail
  try simp only [hR]
  try rw [hW0]
  clear hW0
  go_wp2
  go_loopw [12] (fun vi W => ∃ i : Nat, vi = .int .i64 i ∧ i ≤ n ∧ Hid (WiI E w R l (vs.take i ++ bd) fr (kb + i) fv c5 (.slice va n vc) vs W)) (fun vi _ => n - (intOf vi).toNat)
  case atStart => exact ⟨0, rfl, Nat.zero_le _, HW0⟩
  case round =>
    obtain ⟨i, rfl, hi, HI⟩ := hrel
    by_cases hlt : i < n
    · have hiv : i < vs.length := by omega
      obtain ⟨g, hga, hcell⟩ := row_name (by rw [hn]; exact HI.out.row |> fun x => by rwa [hn] at x) hiv
      subst hga
      obtain ⟨f, hf, hf2⟩ := HI.out.st.bnd
      have hsl := HH.out.1 vs[i] (List.getElem_mem hiv)
      have x0 : wr.cell? ⟨R, 0, none⟩ = some (.map (some E.mb)) := cell_store (vs := [_, _]) HI.out.box rfl
      have hlook := hf.look (ofL_len hsl)
      have hb1 := HH.out.2.1
      have hb2 := HH.out.2.2
      have hcl : (f (ofL vs[i])).getD 0 ≤ 2097155 := by
        rw [hf2]
        have h1 := List.count_le_length (a := vs[i]) (l := vs.take i ++ bd)
        have h2 := List.length_take_le i vs
        simp only [List.length_append] at h1
        have h3 : (vs.take i).length ≤ vs.length := List.length_take_le' i vs
        omega
      have hc0 : 0 ≤ (f (ofL vs[i])).getD 0 := by rw [hf2]; omega
      obtain ⟨W1, hrun, hf1, ho1⟩ := hf.put (by omega) (ofL_len hsl) ((f (ofL vs[i])).getD 0 + 1)
      have HN : Hid (WiI E w R l (vs.take (i + 1) ++ bd) fr (kb + (i + 1)) fv c5 (.slice (some ⟨g, 0, none⟩) n vc) vs W1) := HI.out.put hf1 (fput_inc hf2 (count_step vs bd hiv)) ho1 (by omega)
      obtain ⟨c, hc⟩ : ∃ c, (f (ofL vs[i])).getD 0 = c := ⟨_, rfl⟩
      obtain ⟨sv, hsv⟩ : ∃ x, ofL vs[i] = x := ⟨_, rfl⟩
      rw [hc] at hlook hrun hcl hc0
      rw [hsv] at hlook hrun hcell
      have hw1 : wrap64 (c + 1) = c + 1 := wrap1 hc0 (by omega)
      clear hf hf2 hf1 ho1 hsl hc hsv hb1 hb2
      go_wp2
      go_roundw
      case rel => exact ⟨i + 1, by go_num, by omega, HN.out⟩
      case measure => simp [intOf]; omega
    · have hin : i = n := by omega
      subst hin
      have HX : Hid (PSt E wr l (vs ++ bd) fr (kb + vs.length) fv c5 ∧ Stay E w fv wr fv) := by
        have := HI.out.st
        rw [← hn, List.take_length] at this
        exact ⟨this, HI.out.stay⟩
      have hwk := HHW.out wr HX.out.1 HX.out.2
      go_wp2_with fail
      refine hwk.mono ?_
      rintro e W2 (⟨rfl, fr', q, fv', hQ, ⟨kb', s2⟩, y2⟩ | ⟨x, rfl, hZ⟩)
      case inr =>
        have HF := hid (And.intro HX.out.2 hZ)
        clear hwk hZ
        go_wp2
        exact ⟨rfl, .inr ⟨x, wr, rfl, HF.out⟩⟩
      case inl =>
      have hRb := y2.blk R (Array.getElem?_eq_some_iff.1 HI.out.box).1 HI.out.bR (by omega)
      have hRo := y2.own R (Array.getElem?_eq_some_iff.1 HI.out.box).1 HI.out.bR
      have hkb' : kb' ≤ 2097155 := by have := s2.bud; omega
      have HB0 : Hid (WiI E W2 R q (vs.drop 0 ++ bd) (fr ++ fr') kb' fv' c5 (.slice va i vc) vs W2) := by
        refine ⟨by rw [List.drop_zero]; exact s2, Stay.refl _ _ _, hRb.trans HI.out.box, hRo, row_keep HI.out.row (fun g hg => ?_), fun g hg => ?_⟩
        · obtain ⟨_, cu, hcu⟩ := row_block HI.out.row hg
          exact y2.blk g (Array.getElem?_eq_some_iff.1 hcu).1 (HI.out.own g hg) (hIr g (by rw [hn]; exact hg))
        · obtain ⟨_, cu, hcu⟩ := row_block HI.out.row hg
          exact y2.own g (Array.getElem?_eq_some_iff.1 hcu).1 (HI.out.own g hg)
      have HQ := hid (And.intro hQ y2)
      clear hwk hQ s2 y2 hRb hRo hi hlt
      obtain ⟨Wx, hWx⟩ : ∃ X, X = wr := ⟨_, rfl⟩
      subst hWx
      go_wp2
      go_loopw [26] (fun vi W => ∃ j : Nat, vi = .int .i64 j ∧ j ≤ i ∧ Hid (WiI E W2 R q (vs.drop j ++ bd) (fr ++ fr') kb' fv' c5 (.slice va i vc) vs W)) (fun vi _ => i - (intOf vi).toNat)
      case atStart => exact ⟨0, rfl, Nat.zero_le _, HB0⟩
      case round =>
        obtain ⟨j, rfl, hj, HJ⟩ := hrel
        by_cases hlt : j < i
        · have hjv : j < vs.length := by omega
          obtain ⟨g, hga, hcell⟩ := row_name (by rw [hn]; exact HJ.out.row |> fun x => by rwa [hn] at x) hjv
          subst hga
          obtain ⟨f, hf, hf2⟩ := HJ.out.st.bnd
          have hsl := HH.out.1 vs[j] (List.getElem_mem hjv)
          have x0 : wr.cell? ⟨R, 0, none⟩ = some (.map (some E.mb)) := cell_store (vs := [_, _]) HJ.out.box rfl
          have hlook := hf.look (ofL_len hsl)
          have hb1 := HH.out.2.1
          have hb2 := HH.out.2.2
          have hcd := count_drop vs bd hjv
          have hcl : (f (ofL vs[j])).getD 0 ≤ 2097155 := by
            rw [hf2]
            have h1 := List.count_le_length (a := vs[j]) (l := vs.drop j ++ bd)
            simp only [List.length_append, List.length_drop] at h1
            omega
          have hc0 : 1 ≤ (f (ofL vs[j])).getD 0 := by
            rw [hf2, hcd, if_pos rfl]
            omega
          have hsome : (f (ofL vs[j])).isSome = true := by
            cases hff : f (ofL vs[j]) with
            | none => rw [hff] at hc0; simp at hc0
            | some _ => rfl
          obtain ⟨W3, hrun, hf1, ho1⟩ := hf.put_old (by omega) (ofL_len hsl) ((f (ofL vs[j])).getD 0 - 1) hsome
          have HN : Hid (WiI E W2 R q (vs.drop (j + 1) ++ bd) (fr ++ fr') kb' fv' c5 (.slice (some ⟨g, 0, none⟩) i vc) vs W3) := HJ.out.put hf1 (fput_dec hf2 hcd) ho1 HJ.out.st.bud
          obtain ⟨c, hc⟩ : ∃ c, (f (ofL vs[j])).getD 0 = c := ⟨_, rfl⟩
          obtain ⟨sv, hsv⟩ : ∃ x, ofL vs[j] = x := ⟨_, rfl⟩
          rw [hc] at hlook hrun hcl hc0
          rw [hsv] at hlook hrun hcell
          have hw1 : wrap64 (c - 1) = c - 1 := wrapm hc0 (by omega)
          clear hf hf2 hf1 ho1 hsl hc hsv hb1 hb2 hcd hsome
          go_wp2
          go_roundw
          case rel => exact ⟨j + 1, by go_num, by omega, HN.out⟩
          case measure => simp [intOf]; omega
        · have hji : j = i := by omega
          subst hji
          have HZ : Hid (PSt E wr q bd (fr ++ fr') kb' fv' c5 ∧ Stay E W2 fv' wr fv') := by
            have := HJ.out.st
            rw [← hn, List.drop_length] at this
            try rw [← hn]
            exact ⟨this, HJ.out.stay⟩
          go_wp2
          refine bodyPost_end (results_none rfl _ _ _) rfl ?_
          exact .inl ⟨rfl, Wx, W2, fr', q, fv', HX.out.2, HQ.out.1, HQ.out.2, ⟨kb', HZ.out.1⟩, HZ.out.2⟩
end
section
open Go.RowKit
open Lx (Tk ofL lexL rd rdW rdQ rdD rdM mks lexL_nil lexL_blank lexL_rem lexL_err)
/-- What a token's kind tells of its text. -/
def KdOk (k : Int) (t : List UInt8) : Prop := t.length ≤ 63 ∧ (k = 1 ∨ k = 2 ∨ (k = 3 ∧ (t = Lx.dTrue ∨ t = Lx.dFalse)) ∨ (k = 4 ∧ t ∈ mks))
theorem rdW_ok {k : Int} (hk : k = 1 ∨ k = 2) {l : List UInt8} (h : (rdW k l).e = 0) : KdOk (rdW k l).k (rdW k l).t := by
  unfold rdW at h ⊢
  split
  · rename_i h6; rw [if_pos h6] at h; exact absurd h (by decide)
  · rename_i h6
    refine ⟨?_, ?_⟩
    · show (l.take (Lx.wlen l)).length ≤ 63
      rw [List.length_take]; omega
    · rcases hk with rfl | rfl
      · exact .inl rfl
      · exact .inr (.inl rfl)
theorem rd_ok {l : List UInt8} (h : (rd l).e = 0) : KdOk (rd l).k (rd l).t := by
  unfold rd at h ⊢
  split
  · rename_i h1; rw [if_pos h1] at h; exact rdW_ok (.inl rfl) h
  · rename_i h1
    rw [if_neg h1] at h
    split
    · rename_i h2; rw [if_pos h2] at h; exact rdW_ok (.inr rfl) h
    · rename_i h2
      rw [if_neg h2] at h
      split
      · rename_i h3
        rw [if_pos h3] at h
        unfold rdQ at h ⊢
        cases hq : Lx.qs (l.drop 1) with
        | none => rw [hq] at h; exact absurd h (by decide)
        | some p =>
          rw [hq] at h
          simp only at h ⊢
          split
          · rename_i hb
            rw [if_pos hb] at h
            split
            · rename_i h6; rw [if_pos h6] at h; exact absurd h (by decide)
            · rename_i h6; exact ⟨by show p.1.length ≤ 63; omega, .inl rfl⟩
          · rename_i hb; rw [if_neg hb] at h; exact absurd h (by decide)
      · rename_i h3
        rw [if_neg h3] at h
        split
        · rename_i h4
          rw [if_pos h4] at h
          unfold rdD at h ⊢
          simp only at h ⊢
          split
          · exact ⟨by show Lx.dTrue.length ≤ 63; decide, .inr (.inr (.inl ⟨rfl, .inl rfl⟩))⟩
          · rename_i hb
            rw [if_neg hb] at h
            split
            · exact ⟨by show Lx.dFalse.length ≤ 63; decide, .inr (.inr (.inl ⟨rfl, .inr rfl⟩))⟩
            · rename_i hc; rw [if_neg hc] at h; exact absurd h (by decide)
        · rename_i h4
          rw [if_neg h4] at h
          unfold rdM at h ⊢
          cases hf : mks.find? (fun m => Lib.hasPrefix l m) with
          | none => rw [hf] at h; exact absurd h (by decide)
          | some m =>
            have hm := List.mem_of_find?_eq_some hf
            have hlen : ∀ m ∈ mks, m.length ≤ 63 := by decide
            exact ⟨hlen m hm, .inr (.inr (.inr ⟨rfl, hm⟩))⟩
theorem lexL_all : ∀ (n a : Nat) (l : List UInt8), l.length ≤ n → (∀ t ∈ (lexL a l).1, KdOk t.k t.t) ∧ (lexL a l).1.length ≤ l.length
  | _, a, [], _ => by rw [lexL_nil]; exact ⟨fun t ht => (by cases ht), Nat.le_refl _⟩
  | 0, _, c :: r, h => absurd h (by simp)
  | n + 1, a, c :: r, h => by
    have hr : r.length ≤ n := by simpa using h
    by_cases h1 : c = 32 ∨ c = 9 ∨ c = 13
    · rw [lexL_blank h1]
      obtain ⟨i1, i2⟩ := lexL_all n (a + 1) r hr
      exact ⟨i1, by simp only [List.length_cons]; omega⟩
    · by_cases h2 : c = 37
      · subst h2
        rw [lexL_rem]
        exact ⟨fun t ht => (by cases ht), Nat.zero_le _⟩
      · by_cases h3 : (rd (c :: r)).e = 0
        · have hn := (Lx.rd_n h3 (by simp)).1
          obtain ⟨i1, i2⟩ := lexL_all n (a + (rd (c :: r)).n) (r.drop ((rd (c :: r)).n - 1)) (by rw [List.length_drop]; omega)
          unfold lexL
          rw [if_neg h1, if_neg h2, if_neg (by simpa using h3)]
          refine ⟨fun t ht => ?_, ?_⟩
          · rcases List.mem_cons.1 ht with rfl | ht
            · exact rd_ok h3
            · exact i1 t ht
          · rw [List.length_drop] at i2
            simp only [List.length_cons]
            omega
        · rw [lexL_err h1 h2 h3]
          exact ⟨fun t ht => (by cases ht), Nat.zero_le _⟩
theorem tk_ok {t : Tk} (h : KdOk t.k t.t) : TkOk t := by
  obtain ⟨h1, h2⟩ := h
  refine ⟨h1, fun h3 => ?_, fun h4 => ?_⟩
  · rcases h2 with h2 | h2 | ⟨_, h2⟩ | ⟨h2, _⟩
    · omega
    · omega
    · exact h2
    · omega
  · rcases h2 with h2 | h2 | ⟨h2, _⟩ | ⟨_, h2⟩
    · omega
    · omega
    · omega
    · exact h2
/-- The tokens of a text. -/
theorem lex_ok (l : List UInt8) : ∀ t ∈ (lexL 0 l).1, TkOk t := fun t ht => tk_ok ((lexL_all _ 0 l (Nat.le_refl _)).1 t ht)
theorem lex_len (l : List UInt8) : (lexL 0 l).1.length ≤ l.length := (lexL_all _ 0 l (Nat.le_refl _)).2
/-- The kind of what stands first, and of what joins. -/
def headK (h : Nat) (k : Int) : Prop := (h = 1 → k = 2) ∧ (h = 2 → k = 7) ∧ (h = 3 → k = 8) ∧ (h = 4 → k = 9) ∧ (h = 5 → k = 10) ∧ (h = 0 ∨ h = 6 → k ≠ 2 ∧ k ≠ 7 ∧ k ≠ 8 ∧ k ≠ 9 ∧ k ≠ 10)
def joinK (j : Nat) (k : Int) : Prop := (j = 0 → k ≠ 3 ∧ k ≠ 4 ∧ k ≠ 5 ∧ k ≠ 6) ∧ (j ≠ 0 → k = (j : Int))
theorem kdOf_ofL (m : List UInt8) : kdOf (ofL m) = kdN kdL m 0 := by unfold kdOf; rw [Lib.toList_data, Lx.ofL_data]
theorem marks_kd : ∀ m ∈ mks, headK (if m = [126] then 1 else if m = [33] then 2 else if m = [63] then 3 else if m = [40] then 6 else 0) (kdOf (ofL m)) ∧ joinK (if m = [61, 62] then 5 else if m = [60, 61, 62] then 6 else if m = [38] then 3 else if m = [124] then 4 else 0) (kdOf (ofL m)) := by
  intro m hm
  rw [kdOf_ofL]
  revert m
  unfold headK joinK
  decide
theorem words_kd : headK 4 (kdOf (ofL Lx.dTrue)) ∧ headK 5 (kdOf (ofL Lx.dFalse)) ∧ joinK 0 (kdOf (ofL Lx.dTrue)) ∧ joinK 0 (kdOf (ofL Lx.dFalse)) ∧ kdOf ⟨#[]⟩ = 0 := by
  have e : kdOf ⟨#[]⟩ = kdN kdL [] 0 := kdOf_ofL []
  rw [kdOf_ofL, kdOf_ofL, e]
  unfold headK joinK
  refine ⟨?_, ?_, ?_, ?_, ?_⟩ <;> decide
theorem kd_of {l : List Tk} (hl : ∀ t ∈ l, TkOk t) : headK (headOf l) (kdOf (signB l)) ∧ joinK (joinOf l) (kdOf (signB l)) := by
  have h0 : headK 0 0 ∧ joinK 0 0 := by unfold headK joinK; decide
  cases l with
  | nil => show headK 0 (kdOf ⟨#[]⟩) ∧ joinK 0 (kdOf ⟨#[]⟩); rw [words_kd.2.2.2.2]; exact h0
  | cons t r =>
    have ht := hl t (List.mem_cons_self ..)
    by_cases h4 : t.k = 4
    · have e : signB (t :: r) = ofL t.t := by show (if t.k = 4 ∨ t.k = 3 then ofL t.t else _) = _; rw [if_pos (.inl h4)]
      rw [e]
      simp only [headOf, joinOf, if_pos h4]
      exact marks_kd _ (ht.mark h4)
    · by_cases h3 : t.k = 3
      · have e : signB (t :: r) = ofL t.t := by show (if t.k = 4 ∨ t.k = 3 then ofL t.t else _) = _; rw [if_pos (.inr h3)]
        rw [e]
        simp only [headOf, joinOf, if_neg h4, if_pos h3]
        rcases ht.dol h3 with hd | hd
        · rw [hd, if_pos rfl]; exact ⟨words_kd.1, words_kd.2.2.1⟩
        · rw [hd, if_neg (by decide)]; exact ⟨words_kd.2.1, words_kd.2.2.2.1⟩
      · have e : signB (t :: r) = ⟨#[]⟩ := by show (if t.k = 4 ∨ t.k = 3 then ofL t.t else _) = _; rw [if_neg (fun h => h.elim h4 h3)]
        rw [e, words_kd.2.2.2.2]
        simp only [headOf, joinOf, if_neg h4, if_neg h3]
        exact h0
end
