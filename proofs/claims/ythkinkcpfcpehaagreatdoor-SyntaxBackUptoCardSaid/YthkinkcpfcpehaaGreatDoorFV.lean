import Derived.Test.YthkinkcpfcpehaaGreatDoorFN
import Derived.Test.YthkinkcpfcpehaaGreatDoorFU
namespace Go.Proofs.YthkinkcpfcpehaaGreatDoor
set_option maxRecDepth 100000
set_option maxHeartbeats 8000000
section
open Go.RowKit Go.Maps
open Lx (Tk ofL KsAt flK flK_snoc row_keep row_block row_slice)
attribute [local go_sem] fld0 fld2
theorem info9 : (Tryz.prog.info? 9).map (fun i => (i.zero, i.size, i.bytes)) = some (some (.string ⟨#[]⟩), 1, 16) := by kernel_rfl
theorem variable_yes {E : Env} {w : World} {t : Tk} {r : List Tk} {bd : List (List UInt8)} {fr : List Tk} {kb : Nat} {fv c5 : Value} (h : PSt E w (t :: r) bd fr kb fv c5) (hk : t.k = 2) :
    Calls Tryz.prog 196 #[.pointer (some ⟨E.B, 0, none⟩)] w fun e w' => e = .returned (.string (ofL t.t)) ∧ PSt E w' r bd fr kb fv c5 ∧ Stay E w fv w' fv := by
  have ha := ptake_k h hk
  obtain ⟨tx, htx⟩ : ∃ x, ofL t.t = x := ⟨_, rfl⟩
  simp only [tokV, hk, htx] at ha
  clear h
  go_enter Tryz.func196, Tryz.ntmps196
  go_wp2_with fail
  refine ha.mono ?_
  rintro e W1 ⟨rfl, h1, s1⟩
  have H1 := hid (And.intro h1 s1)
  clear ha h1 s1
  go_wp2
  go_ret
  exact ⟨by rw [htx]; rfl, H1.out⟩
theorem variable_no {E : Env} {w : World} {l : List Tk} {bd : List (List UInt8)} {fr : List Tk} {kb : Nat} {fv c5 : Value} (h : PSt E w l bd fr kb fv c5) (hk : isK 2 l = false) :
    Calls Tryz.prog 196 #[.pointer (some ⟨E.B, 0, none⟩)] w fun e w' => e = .panicked misfit ∧ PSt E w' l bd fr kb fv c5 ∧ Stay E w fv w' fv := by
  have ha := ptake_no h 2 hk (by decide)
  clear h
  go_enter Tryz.func196, Tryz.ntmps196
  go_wp2_with fail
  refine ha.mono ?_
  rintro e W1 ⟨rfl, h1, s1⟩
  have H1 := hid (And.intro h1 s1)
  clear ha h1 s1
  go_wp2
  exact ⟨rfl, rfl, H1.out⟩
theorem PV.no_var {l : List Tk} (h : isK 2 l = false) : PV l (.no l) := by
  cases l with
  | nil => exact PV.nil
  | cons t r => exact PV.wrong (by simpa [isK] using h)
theorem pVars_cnt : ∀ (n : Nat) (l : List Tk) (vs : List (List UInt8)) (fr q : List Tk), pVars n l = some (.ok vs fr q) → vs.length + q.length ≤ l.length ∧ fr = []
  | 0, _, _, _, _, h => by cases h
  | n + 1, [], _, _, _, h => by simp [pVars] at h
  | n + 1, t :: r, vs, fr, q, h => by
    rw [pVars] at h
    by_cases h1 : t.k = 2
    · rw [if_pos h1] at h
      by_cases h2 : isM [44] r = true
      · rw [if_pos h2] at h
        obtain ⟨t1, r1, rfl, _, _⟩ := isM_cons h2
        simp only [List.tail_cons] at h
        cases hy : pVars n r1 with
        | none => rw [hy] at h; cases h
        | some y =>
          rw [hy] at h
          cases y with
          | no q => cases h
          | ok a b q' =>
            have := (pVars_cnt n r1 a b q' hy).1
            simp only [Option.some.injEq, Pr.ok.injEq] at h
            obtain ⟨rfl, rfl, rfl⟩ := h
            exact ⟨by simp only [List.length_cons]; omega, rfl⟩
      · rw [if_neg h2] at h
        simp only [Option.some.injEq, Pr.ok.injEq] at h
        obtain ⟨rfl, rfl, rfl⟩ := h
        exact ⟨by simp; omega, rfl⟩
    · rw [if_neg h1] at h; cases h
theorem PV.cnt {l : List Tk} {vs : List (List UInt8)} {fr q : List Tk} (h : PV l (.ok vs fr q)) : vs.length + q.length ≤ l.length := by obtain ⟨n, h⟩ := h; exact (pVars_cnt n _ _ _ _ h).1
/-- The cells of names. -/
def flS (l : List (List UInt8)) : List Value := l.map fun s => .string (ofL s)
/-- What reading names leaves. -/
def NamesP (E : Env) (w : World) (l : List Tk) (bd : List (List UInt8)) (fr : List Tk) (kb : Nat) (fv c5 : Value) (e : Ending) (w' : World) : Prop :=
  (∃ vs sl q, PV l (.ok vs [] q) ∧ e = .returned sl ∧ (w'.ownsRow E.n0 9 1 sl vs.length (flS vs) ∧ (∀ g, sl.ownBlock = some g → Good E w.heap.size fv g) ∧ ∀ s ∈ vs, s.length ≤ maxLen) ∧ PSt E w' q bd fr kb fv c5 ∧ Stay E w fv w' fv) ∨
  (∃ q, PV l (.no q) ∧ e = .panicked misfit ∧ Bx w' E.B E.n E.n0 q (.map (some E.mb)) (.map (some E.mm)) fv c5 ∧ Stay E w fv w' fv)
structure VGoes (l : List Tk) (vs : List (List UInt8)) (q : List Tk) : Prop where
  more : isM [44] q = true → ∀ {bs : List (List UInt8)} {q' : List Tk}, PV q.tail (.ok bs [] q') → PV l (.ok (vs ++ bs) [] q')
  no : isM [44] q = true → ∀ {q' : List Tk}, PV q.tail (.no q') → PV l (.no q')
  last : isM [44] q = false → PV l (.ok vs [] q)
theorem VGoes.start {t : Tk} {r : List Tk} (hk : t.k = 2) : VGoes (t :: r) [t.t] r :=
  ⟨fun hm _ _ hp => PV.more hk hm hp, fun hm _ hp => PV.more_no hk hm hp, fun hm => PV.last hk hm⟩
theorem VGoes.step {l : List Tk} {vs : List (List UInt8)} {q r : List Tk} {t : Tk} (h : VGoes l vs q) (hm : isM [44] q = true) (hq : q.tail = t :: r) (hk : t.k = 2) : VGoes l (vs ++ [t.t]) r := by
  refine ⟨fun hm1 _ _ hx => ?_, fun hm1 _ hx => h.no hm (by rw [hq]; exact PV.more_no hk hm1 hx), fun hm1 => h.more hm (by rw [hq]; exact PV.last hk hm1)⟩
  rw [List.append_assoc]
  exact h.more hm (by rw [hq]; exact PV.more hk hm1 hx)
structure NaI (E : Env) (w : World) (l : List Tk) (bd : List (List UInt8)) (fr : List Tk) (kb : Nat) (fv c5 : Value) (vs : List (List UInt8)) (q : List Tk) (v : Value) (W : World) : Prop where
  goes : VGoes l vs q
  st : PSt E W q bd fr kb fv c5
  stay : Stay E w fv W fv
  row : W.ownsRow E.n0 9 1 v vs.length (flS vs)
  own : ∀ g, v.ownBlock = some g → Good E w.heap.size fv g
  lens : ∀ s ∈ vs, s.length ≤ maxLen
  cnt : vs.length + q.length ≤ l.length
theorem flS_snoc (l : List (List UInt8)) (s : List UInt8) : flS (l ++ [s]) = flS l ++ [.string (ofL s)] := by simp [flS]
theorem one1s {s : ByteArray} : ∀ u ∈ [Value.string s], u.oneCell' = true := by
  intro u hu
  simp only [List.mem_singleton] at hu
  subst hu
  rfl
theorem names_any {E : Env} {c5 : Value} {l : List Tk} {w : World} {bd : List (List UInt8)} {fr : List Tk} {kb : Nat} {fv : Value} (h : PSt E w l bd fr kb fv c5) :
    Calls Tryz.prog 195 #[.pointer (some ⟨E.B, 0, none⟩), .func (.func 196) #[.pointer (some ⟨E.B, 0, none⟩)] #[]] w (NamesP E w l bd fr kb fv c5) := by
  cases hk0 : isK 2 l with
  | false =>
    have ha := variable_no h hk0
    have HP := hid (PV.no_var hk0)
    clear h hk0
    go_enter Tryz.func195, Tryz.ntmps195
    go_wp2_with fail
    refine ha.mono ?_
    rintro e W1 ⟨rfl, h1, s1⟩
    have HF := hid (And.intro h1.bx s1)
    clear ha h1 s1
    go_wp2
    exact ⟨rfl, .inr ⟨l, HP.out, rfl, HF.out⟩⟩
  | true =>
  obtain ⟨t, r, rfl, hk⟩ : ∃ t r, l = t :: r ∧ t.k = 2 := by
    cases l with
    | nil => cases hk0
    | cons t r => exact ⟨t, r, rfl, by simpa [isK] using hk0⟩
  have ha := variable_yes h hk
  have hmx := h.mx
  have hll := h.bud2
  have htl := (h.tok t (List.mem_cons_self ..)).len
  have Hn0 : Hid (E.n0 ≤ w.heap.size) := by show E.n0 ≤ w.heap.size; have := h.ownlt (k := E.B) (.inl rfl); omega
  have hLm : (t :: r).length ≤ 2097155 := by omega
  obtain ⟨L, hL⟩ : ∃ L, (t :: r).length = L := ⟨_, rfl⟩
  obtain ⟨tx, htx⟩ : ∃ x, ofL t.t = x := ⟨_, rfl⟩
  rw [htx] at ha
  clear h hll
  go_enter Tryz.func195, Tryz.ntmps195
  go_wp2_with fail
  refine ha.mono ?_
  rintro e W1 ⟨rfl, s1, y1⟩
  have hb2 := below_box W1 (.cells #[.string tx] 9)
  have hz2 := (MapKept.heap_alloc W1 (.cells #[.string tx] 9)).1
  have HS : Hid (∃ vs q, vs.length = 1 ∧ NaI E w (t :: r) bd fr kb fv c5 vs q (.slice (some ⟨W1.heap.size, 0, none⟩) 1 1) (W1.alloc (.cells #[.string tx] 9))) := by
    refine ⟨[t.t], r, rfl, VGoes.start hk, s1.keep hb2, y1.trans (Stay.of_below hb2), ?_, ?_, ?_, ?_⟩
    · exact ⟨rfl, .inr ⟨W1.heap.size, 1, _, rfl, by have := Hn0.out; have := y1.size; show E.n0 ≤ W1.heap.size; omega, hz2, Nat.le_refl _, by decide, rfl, by rw [← htx]; rfl⟩⟩
    · rintro g hg
      have e := Option.some.inj hg
      simp only at e
      subst e
      exact ⟨y1.size, s1.fresh (Nat.le_refl _)⟩
    · intro s hs
      simp only [List.mem_singleton] at hs
      subst hs
      exact htl
    · simp; omega
  clear ha s1 y1 hb2 hz2
  obtain ⟨i0, hi0, hz0, hz1, hz2⟩ := info_parts info9
  go_wp2
  go_loopw [5] (fun v W => ∃ (k : Nat) (a : Option Addr) (c : Nat), v = .slice a k c ∧ Hid (∃ vs q, vs.length = k ∧ NaI E w (t :: r) bd fr kb fv c5 vs q (.slice a k c) W)) (fun v _ => L - lenV v)
  case atStart => exact ⟨1, _, 1, rfl, HS.out⟩
  case round =>
    obtain ⟨k, va, vc, rfl, vs, q, hkk, hI⟩ := hrel
    have HI := hid hI
    by_cases hm : isM [44] q = true
    · obtain ⟨t1, r1, rfl, _, _⟩ := isM_cons hm
      have hsk := pskip_yes hI.st (ofL [44]) ((sign_is (by simp) (by decide) (by decide) hI.st.tok).2 hm)
      have HM := hid hm
      clear hI hm
      go_wp2_with fail
      refine hsk.mono ?_
      rintro e W2 ⟨rfl, s2, y2⟩
      cases hk1 : isK 2 r1 with
      | false =>
        have hv := variable_no s2 hk1
        have HP := hid (HI.out.goes.no HM.out (PV.no_var hk1))
        have HY2 := hid (And.intro s2 y2)
        clear hsk s2 y2
        go_wp2_with fail
        refine hv.mono ?_
        rintro e W3 ⟨rfl, s3, y3⟩
        have HF := hid (And.intro s3.bx (HI.out.stay.trans (HY2.out.2.trans y3)))
        clear hv s3 y3
        go_wp2
        exact ⟨rfl, .inr ⟨r1, HP.out, rfl, HF.out⟩⟩
      | true =>
        obtain ⟨t3, r3, rfl, hk3⟩ : ∃ t r, r1 = t :: r ∧ t.k = 2 := by
          cases r1 with
          | nil => cases hk1
          | cons t r => exact ⟨t, r, rfl, by simpa [isK] using hk1⟩
        have hv := variable_yes s2 hk3
        have ht3 := (s2.tok t3 (List.mem_cons_self ..)).len
        obtain ⟨ty, hty⟩ : ∃ x, ofL t3.t = x := ⟨_, rfl⟩
        rw [hty] at hv
        have HY2 := hid (And.intro s2 y2)
        clear hsk s2 y2
        go_wp2_with fail
        refine hv.mono ?_
        rintro e W3 ⟨rfl, s3, y3⟩
        have hb4 := below_box W3 (.cells #[.string ty] 9)
        have hvb : ∀ g, (Value.slice va k vc).ownBlock = some g → g < wr.heap.size ∧ W3.heap[g]? = wr.heap[g]? ∧ ¬ Own E fv g := fun g hg => by
          obtain ⟨_, cu, hcu⟩ := row_block HI.out.row hg
          have h1 := (Array.getElem?_eq_some_iff.1 hcu).1
          obtain ⟨p1, p2⟩ := HY2.out.2.blk g h1 (HI.out.own g hg).2
          obtain ⟨p3, p4⟩ := y3.blk g (Nat.lt_of_lt_of_le h1 HY2.out.2.size) p2
          exact ⟨h1, p3.trans p1, p4⟩
        have hrow : (W3.alloc (.cells #[.string ty] 9)).ownsRow E.n0 9 1 (.slice va k vc) k (flS vs) := by
          have := row_keep HI.out.row (W' := W3) (fun g hg => (hvb g hg).2.1)
          rw [hkk] at this
          exact Lx.row_below this hb4
        have hkL : k ≤ 2097155 := by have := HI.out.cnt; omega
        have hz3 : E.n0 ≤ W3.heap.size := by have := Hn0.out; have := (HI.out.stay.trans (HY2.out.2.trans y3)).size; omega
        have hL4 : k + 1 + r3.length ≤ L := by have h1 := HI.out.cnt; simp only [List.length_cons] at h1 hL; omega
        have HFIN : Hid (∀ v' w1, w1.ownsRow E.n0 9 1 v' (k + 1) (flS vs ++ [.string ty]) → (W3.alloc (.cells #[.string ty] 9)).grownBy w1 (Value.slice va k vc).ownBlock → (v'.ownBlock = (Value.slice va k vc).ownBlock ∨ v'.ownBlock = some (W3.alloc (.cells #[.string ty] 9)).heap.size) →
            ∃ vs q, vs.length = k + 1 ∧ NaI E w (t :: r) bd fr kb fv c5 vs q v' w1) := by
          rintro v' w1 hown hg hat
          have hst := (HI.out.stay.trans (HY2.out.2.trans y3)).trans (Stay.of_below hb4)
          have hold : ∀ g, (Value.slice va k vc).ownBlock = some g → w.heap.size ≤ g := fun g hg => (HI.out.own g hg).1
          refine ⟨vs ++ [t3.t], r3, by simp [hkk], HI.out.goes.step HM.out rfl hk3, ?_, hst.grown hg hold, ?_, ?_, ?_, ?_⟩
          · exact (s3.keep hb4).grown hg (fun g e => ⟨(hvb g e).2.2, by have := hold g e; have := Hn0.out; omega⟩)
          · rw [flS_snoc, List.length_append, hkk, hty]; exact hown
          · intro g hgv
            rcases hat with h1 | h1
            · exact ⟨hold g (h1 ▸ hgv), (hvb g (h1 ▸ hgv)).2.2⟩
            · rw [h1] at hgv
              have e := Option.some.inj hgv
              rw [World.size_alloc] at e
              exact ⟨by have := hst.size; simp at this; omega, s3.fresh (by omega)⟩
          · intro s hs
            rcases List.mem_append.1 hs with hs | hs
            · exact HI.out.lens s hs
            · simp only [List.mem_singleton] at hs
              subst hs
              exact ht3
          · have := hL4; rw [← hL] at this; simp only [List.length_append, List.length_cons, List.length_nil, hkk] at this ⊢; omega
        have hl1 : ∀ j u, [Value.string ty][j]? = some u → (W3.alloc (.cells #[.string ty] 9)).cell? ((⟨W3.heap.size, 0, none⟩ : Addr).add j) = some u := cell_one_new W3 (.string ty) 9
        clear hv s3 y3 hb4 hvb
        go_wp2_with (at_builtin; refine wpList_append_own_at _ rfl _ _ 38 rfl E.n0 9 i0 _ 1 16 Tryz.underlying38 hi0 hz0 hz1 hz2 rfl (by decide) _ _ _ rfl hrow ⟨W3.heap.size, 0, none⟩ 1 1 [.string ty] rfl rfl hl1 one1s (by unfold maxLen; omega) (by omega) (by simp; omega) ?_; intro v' w1 hown hg _ hat; have HN := hid (HFIN.out v' w1 hown hg hat); obtain ⟨a', cap', rfl⟩ := row_slice hown; clear hown hg hat)
        go_roundw
        case rel => exact ⟨k + 1, a', cap', rfl, HN.out⟩
        case measure => simp [lenV]; omega
    · have hmf : isM [44] q = false := by simpa using hm
      have hsk := pskip_no hI.st (ofL [44]) (sign_not (by simp) (by decide) (by decide) hI.st.tok hmf)
      have HM := hid hmf
      clear hI hm hmf
      go_wp2_with fail
      refine hsk.mono ?_
      rintro e W2 ⟨rfl, s2, y2⟩
      have HY2 := hid (And.intro s2 y2)
      clear hsk s2 y2
      go_wp2
      go_ret
      refine .inl ⟨vs, _, q, HI.out.goes.last HM.out, rfl, ⟨row_keep HI.out.row (fun g hg => ?_), HI.out.own, HI.out.lens⟩, HY2.out.1, HI.out.stay.trans HY2.out.2⟩
      obtain ⟨_, cu, hcu⟩ := row_block HI.out.row hg
      exact (HY2.out.2.blk g (Array.getElem?_eq_some_iff.1 hcu).1 (HI.out.own g hg).2).1
end
section
open Go.RowKit
/-- A piece's cells. -/
abbrev pcells (f : Fm) (sl sr sk : Value) : Array Value := #[.int .i64 f.k, .string f.nm, .int .i64 f.l.v, .string f.l.fn, sl, .int .i64 f.r.v, .string f.r.fn, sr, sk, .bool f.wide, .int .i64 f.size, .int .i64 f.depth]
/-- A piece at p. -/
structure PcP (P : Nat → Prop) (W : World) (p : Nat) (f : Fm) : Prop where
  at_ : ∃ sl sr sk, W.heap[p]? = some (.cells (pcells f sl sr sk) 59 (0, 0)) ∧ FmP P W f sl sr sk
  own : P p
theorem PcP.keep {P Q : Nat → Prop} {W W' : World} {p : Nat} {f : Fm} (h : PcP P W p f) (hs : W.heap.size ≤ W'.heap.size) (hk : ∀ k, P k → k < W.heap.size → Q k ∧ W'.heap[k]? = W.heap[k]?) : PcP Q W' p f := by
  obtain ⟨sl, sr, sk, hb, hf⟩ := h.at_
  have hlt := (Array.getElem?_eq_some_iff.1 hb).1
  exact ⟨⟨sl, sr, sk, (hk p h.own hlt).2.trans hb, hf.keep hs hk⟩, (hk p h.own hlt).1⟩
theorem PcP.grow {P : Nat → Prop} {W W' : World} {p : Nat} {f : Fm} (h : PcP P W p f) (hb : Below W.heap.size W W') : PcP P W' p f := h.keep hb.size fun k hk hl => ⟨hk, hb.block k hl⟩
theorem tsize_pos (t : T) : 0 ≤ t.size := by have := size_parts t []; omega
structure EqI (P : Nat → Prop) (w : World) (G : Nat) (l r : T) (sl sr : Value) (X : World) : Prop where
  bel : Below w.heap.size w X
  box : X.heap[G]? = some (fbox (fEq l r) sl sr (.slice none 0 0))
  fm : FmP P X (fEq l r) sl sr (.slice none 0 0)
theorem EqI.keep {P : Nat → Prop} {w : World} {G : Nat} {l r : T} {sl sr : Value} {X Y : World} (h : EqI P w G l r sl sr X) (hb : Below X.heap.size X Y) : EqI P w G l r sl sr Y :=
  ⟨h.bel.trans (hb.mono h.bel.size), (hb.block _ (Array.getElem?_eq_some_iff.1 h.box).1).trans h.box, h.fm.grow hb⟩
theorem equation_any {P : Nat → Prop} {w : World} {l r : T} {sl sr : Value} (hl : ArgsP P w sl l.args) (hr : ArgsP P w sr r.args) (s1 : Short l) (s2 : Short r) (hb : (fEq l r).size ≤ 4611686018427387904) :
    Calls Tryz.prog 200 #[tval l sl, tval r sr] w fun e w' => ∃ p, e = .returned (.pointer (some ⟨p, 0, none⟩)) ∧ w.heap.size ≤ p ∧ w'.heap[p]? = some (.cells (pcells (fEq l r) sl sr (.slice none 0 0)) 59 (0, 0)) ∧ Below w.heap.size w w' := by
  obtain ⟨la, lc, rfl, _, _⟩ := hl.slice'
  obtain ⟨ra, rc, rfl, _, _⟩ := hr.slice'
  have hsane : (fEq l r).sane := by
    show Fm.sane (.mk 1 e0 l r [])
    rw [Fm.sane, Fm.sane.sanes]
    exact ⟨fun _ => ⟨s1, s2, rfl⟩, trivial⟩
  have hsz : wrap64 (fEq l r).size = (fEq l r).size := by
    have h1 := size_atom hsane rfl
    have h2 := tsize_pos l
    have h3 := tsize_pos r
    have h1' : (fEq l r).size = 1 + l.size + r.size := h1
    unfold wrap64; omega
  have hdp : (fEq l r).depth ≤ 4611686018427387904 := by
    have h1 : (fEq l r).depth = 1 + max l.depth r.depth := depth_atom hsane rfl
    have := short_depth s1
    have := short_depth s2
    omega
  have hb1 := below_box w (.cells #[.int .i64 l.v, .string l.fn, .slice la l.args.length lc] 24)
  have hb2 := below_box (w.alloc (.cells #[.int .i64 l.v, .string l.fn, .slice la l.args.length lc] 24)) (.cells #[.int .i64 r.v, .string r.fn, .slice ra r.args.length rc] 24)
  have hb3 := below_box ((w.alloc (.cells #[.int .i64 l.v, .string l.fn, .slice la l.args.length lc] 24)).alloc (.cells #[.int .i64 r.v, .string r.fn, .slice ra r.args.length rc] 24)) (fbox (fEq l r) (.slice la l.args.length lc) (.slice ra r.args.length rc) (.slice none 0 0))
  have hbb := hb1.trans ((hb2.trans (hb3.mono hb2.size)).mono hb1.size)
  have hz := (MapKept.heap_alloc ((w.alloc (.cells #[.int .i64 l.v, .string l.fn, .slice la l.args.length lc] 24)).alloc (.cells #[.int .i64 r.v, .string r.fn, .slice ra r.args.length rc] 24)) (fbox (fEq l r) (.slice la l.args.length lc) (.slice ra r.args.length rc) (.slice none 0 0))).1
  have hf0 : FmP P w (fEq l r) (.slice la l.args.length lc) (.slice ra r.args.length rc) (.slice none 0 0) := ⟨hl, hr, KidsP.nil _ _⟩
  obtain ⟨W3, hW3⟩ : ∃ X, ((w.alloc (.cells #[.int .i64 l.v, .string l.fn, .slice la l.args.length lc] 24)).alloc (.cells #[.int .i64 r.v, .string r.fn, .slice ra r.args.length rc] 24)).alloc (fbox (fEq l r) (.slice la l.args.length lc) (.slice ra r.args.length rc) (.slice none 0 0)) = X := ⟨_, rfl⟩
  rw [hW3] at hbb hz
  obtain ⟨G, hG⟩ : ∃ G, ((w.alloc (.cells #[.int .i64 l.v, .string l.fn, .slice la l.args.length lc] 24)).alloc (.cells #[.int .i64 r.v, .string r.fn, .slice ra r.args.length rc] 24)).heap.size = G := ⟨_, rfl⟩
  rw [hG] at hz
  have hG' : w.heap.size + 1 + 1 = G := by rw [← hG, World.size_alloc, World.size_alloc]
  have hI0 : EqI P w G l r (.slice la l.args.length lc) (.slice ra r.args.length rc) W3 := ⟨hbb, hz, hf0.grow hbb⟩
  have h43 : ∀ X, EqI P w G l r (.slice la l.args.length lc) (.slice ra r.args.length rc) X → Calls Tryz.prog 43 #[fval (fEq l r) (.slice la l.args.length lc) (.slice ra r.args.length rc) (.slice none 0 0)] X fun e X' => e = .returned (.bool (fEq l r).wide) ∧ EqI P w G l r (.slice la l.args.length lc) (.slice ra r.args.length rc) X' := fun X hX => (wide_any _ P _ _ _ X hX.fm).mono fun _ _ ⟨he, hb⟩ => ⟨he, hX.keep hb⟩
  have h21 : ∀ X, EqI P w G l r (.slice la l.args.length lc) (.slice ra r.args.length rc) X → Calls Tryz.prog 21 #[fval (fEq l r) (.slice la l.args.length lc) (.slice ra r.args.length rc) (.slice none 0 0)] X fun e X' => e = .returned (.int .i64 (fEq l r).size) ∧ EqI P w G l r (.slice la l.args.length lc) (.slice ra r.args.length rc) X' := fun X hX => (fsize_any _ hsane P _ _ _ X hX.fm).mono fun _ _ ⟨he, hb⟩ => ⟨by rw [he, hsz], hX.keep hb⟩
  have h22 : ∀ X, EqI P w G l r (.slice la l.args.length lc) (.slice ra r.args.length rc) X → Calls Tryz.prog 22 #[fval (fEq l r) (.slice la l.args.length lc) (.slice ra r.args.length rc) (.slice none 0 0)] X fun e X' => e = .returned (.int .i64 (fEq l r).depth) ∧ EqI P w G l r (.slice la l.args.length lc) (.slice ra r.args.length rc) X' := fun X hX => (fdepth_any _ hsane hdp P _ _ _ X hX.fm).mono fun _ _ ⟨he, hb⟩ => ⟨he, hX.keep hb⟩
  have hdr : ∀ X, EqI P w G l r (.slice la l.args.length lc) (.slice ra r.args.length rc) X → EqI P w G l r (.slice la l.args.length lc) (.slice ra r.args.length rc) X.drew := fun X hX => hX.keep (Below.refl _ X).drew
  have hal : ∀ X o, EqI P w G l r (.slice la l.args.length lc) (.slice ra r.args.length rc) X → EqI P w G l r (.slice la l.args.length lc) (.slice ra r.args.length rc) (X.alloc o) := fun X o hX => hX.keep (below_box X o)
  have hC : ∀ X, EqI P w G l r (.slice la l.args.length lc) (.slice ra r.args.length rc) X → X.cell? ⟨G, 0, none⟩ = some (.int .i64 1) ∧ X.cell? ⟨G, 1, none⟩ = some (.string ⟨#[]⟩) ∧ X.cell? ⟨G, 2, none⟩ = some (.int .i64 l.v) ∧ X.cell? ⟨G, 3, none⟩ = some (.string l.fn) ∧ X.cell? ⟨G, 4, none⟩ = some (.slice la l.args.length lc) ∧ X.cell? ⟨G, 5, none⟩ = some (.int .i64 r.v) ∧ X.cell? ⟨G, 6, none⟩ = some (.string r.fn) ∧ X.cell? ⟨G, 7, none⟩ = some (.slice ra r.args.length rc) ∧ X.cell? ⟨G, 8, none⟩ = some (.slice none 0 0) := fun X hX => by
    have hx := hX.box
    refine ⟨?_, ?_, ?_, ?_, ?_, ?_, ?_, ?_, ?_⟩ <;> exact cell_storeR (vs := [_, _, _, _, _, _, _, _, _]) hx rfl
  have hbl : Hid (∀ X, EqI P w G l r (.slice la l.args.length lc) (.slice ra r.args.length rc) X → Below w.heap.size w X) := fun X h => h.bel
  obtain ⟨S, hS⟩ : ∃ S, EqI P w G l r (.slice la l.args.length lc) (.slice ra r.args.length rc) = S := ⟨_, rfl⟩
  rw [hS] at hI0 h43 h21 h22 hdr hal hC hbl
  have HW := hidR (And.intro hbb (show w.heap.size ≤ W3.heap.size from hbb.size))
  obtain ⟨sz, hsz2⟩ : ∃ x, (fEq l r).size = x := ⟨_, rfl⟩
  obtain ⟨dp, hdp2⟩ : ∃ x, (fEq l r).depth = x := ⟨_, rfl⟩
  obtain ⟨wd, hwd⟩ : ∃ x, (fEq l r).wide = x := ⟨_, rfl⟩
  have HP : Hid (pcells (fEq l r) (.slice la l.args.length lc) (.slice ra r.args.length rc) (.slice none 0 0) = #[.int .i64 1, .string ⟨#[]⟩, .int .i64 l.v, .string l.fn, .slice la l.args.length lc, .int .i64 r.v, .string r.fn, .slice ra r.args.length rc, .slice none 0 0, .bool wd, .int .i64 sz, .int .i64 dp]) := by
    rw [← hsz2, ← hdp2, ← hwd]; exact rfl
  rw [hsz2] at h21
  rw [hdp2] at h22
  rw [hwd] at h43
  have hW3' : ((w.alloc (.cells #[.int .i64 l.v, .string l.fn, .slice la l.args.length lc] 24)).alloc (.cells #[.int .i64 r.v, .string r.fn, .slice ra r.args.length rc] 24)).alloc (.cells #[.int .i64 1, .string ⟨#[]⟩, .int .i64 l.v, .string l.fn, .slice la l.args.length lc, .int .i64 r.v, .string r.fn, .slice ra r.args.length rc, .slice none 0 0] 27) = W3 := hW3
  have HW3 := hidR hW3'
  clear hW3 hW3' hS hl hr s1 s2 hb hsane hsz hdp hb1 hb2 hb3 hbb hz hf0 hG hsz2 hdp2 hwd
  go_enter Tryz.func200, Tryz.ntmps200
  go_upto_region 2 with fail
  try simp only [hG']
  rw [show _ = W3 from HW3.out]
  have hSd := hdr _ hI0
  obtain ⟨n0, n1, n2, n3, n4, n5, n6, n7, n8⟩ := hC _ hSd
  go_region_held3 (fun X => X.cell? ⟨G, 0, none⟩ = some (.int .i64 1) ∧ X.cell? ⟨G, 1, none⟩ = some (.string ⟨#[]⟩) ∧ X.cell? ⟨G, 2, none⟩ = some (.int .i64 l.v) ∧ X.cell? ⟨G, 3, none⟩ = some (.string l.fn) ∧ X.cell? ⟨G, 4, none⟩ = some (.slice la l.args.length lc) ∧ X.cell? ⟨G, 5, none⟩ = some (.int .i64 r.v) ∧ X.cell? ⟨G, 6, none⟩ = some (.string r.fn) ∧ X.cell? ⟨G, 7, none⟩ = some (.slice ra r.args.length rc) ∧ X.cell? ⟨G, 8, none⟩ = some (.slice none 0 0)) (first | exact ⟨n0, n1, n2, n3, n4, n5, n6, n7, n8⟩ | exact K4 | exact K5 | exact K6 | exact hC _ (hal _ _ HW6)) (first
    | (go_at_call 22; refine (h22 _ HW5).mono ?_; rintro e W6 ⟨rfl, HW6⟩; have K6 := hC _ HW6)
    | (go_at_call 21; refine (h21 _ HW4).mono ?_; rintro e W5 ⟨rfl, HW5⟩; have K5 := hC _ HW5)
    | (go_at_call 43; refine (h43 _ hSd).mono ?_; rintro e W4 ⟨rfl, HW4⟩; have K4 := hC _ HW4))
  go_wp2
  go_ret
  have hz6 := (MapKept.heap_alloc W6 (.cells #[.int .i64 1, .string ⟨#[]⟩, .int .i64 l.v, .string l.fn, .slice la l.args.length lc, .int .i64 r.v, .string r.fn, .slice ra r.args.length rc, .slice none 0 0, .bool wd, .int .i64 sz, .int .i64 dp] 59)).1
  have hb6 := hbl.out _ HW6
  exact ⟨W6.heap.size, rfl, hb6.size, by rw [HP.out]; exact hz6, hb6.trans ((below_box W6 _).mono hb6.size)⟩
end
