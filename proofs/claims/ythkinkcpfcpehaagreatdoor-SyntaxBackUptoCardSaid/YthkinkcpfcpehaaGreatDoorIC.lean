import Derived.Test.YthkinkcpfcpehaaGreatDoorIA
import Derived.Test.YthkinkcpfcpehaaGreatDoorHA
namespace Go.Proofs.YthkinkcpfcpehaaGreatDoor
set_option maxRecDepth 100000
set_option maxHeartbeats 16000000
section
open Go.RowKit
open Lx (Tk ofL lexL addD)
theorem kts_cons {L : List Tk} {p : Pt} {B : List Pt} (h : kts L = p :: B) : ∃ t r, L = t :: r ∧ t.k = p.1 ∧ t.t = p.2 ∧ kts r = B := by
  obtain ⟨t, r, h1, h2, h3⟩ := List.map_eq_cons_iff.1 h
  subst h2
  exact ⟨t, r, h1, rfl, rfl, h3⟩
theorem kts_app {L : List Tk} {A B : List Pt} (h : kts L = A ++ B) : ∃ x y, L = x ++ y ∧ kts x = A ∧ kts y = B := by
  obtain ⟨x, y, h1, h2, h3⟩ := List.map_eq_append_iff.1 h
  exact ⟨x, y, h1, h2, h3⟩
theorem kts_nil {L : List Tk} (h : kts L = []) : L = [] := List.map_eq_nil_iff.1 h
/-- These names hold all that are bound. -/
def Cov (q : ByteArray → Int) (bd : List (List UInt8)) : Prop := ∀ s, 0 < q s → s.data.toList ∈ bd
theorem isM_no {m : List UInt8} {t : Tk} {r : List Tk} (h : t.t ≠ m) : isM m (t :: r) = false := by
  show (decide (t.k = 4) && decide (t.t = m)) = false
  simp [h]
theorem isM_yes {m : List UInt8} {t : Tk} {r : List Tk} (hk : t.k = 4) (h : t.t = m) : isM m (t :: r) = true := by
  show (decide (t.k = 4) && decide (t.t = m)) = true
  simp [h, hk]
theorem pt_term (t : T) : trB t = true → ∀ (q : ByteArray → Int) (bd : List (List UInt8)) (L rest : List Tk), clT q t → Cov q bd → kts L = tkT t → isM [40] rest = false → PT bd (L ++ rest) (.ok [t] [] rest) := by
  refine T.ind (P := fun t => trB t = true → ∀ (q : ByteArray → Int) (bd : List (List UInt8)) (L rest : List Tk), clT q t → Cov q bd → kts L = tkT t → isM [40] rest = false → PT bd (L ++ rest) (.ok [t] [] rest)) (fun t ih => ?_) t
  intro h q bd L rest hcl hq hL hr
  rw [trB_eq] at h
  simp only [Bool.and_eq_true, Bool.or_eq_true, decide_eq_true_eq] at h
  rw [tkT_eq] at hL
  by_cases hv : vB t = true
  · rw [if_pos hv] at hL
    obtain ⟨u, L', rfl, hk, ht, hL'⟩ := kts_cons hL
    obtain rfl := kts_nil hL'
    have h0 := clT_var hcl hv
    unfold vB at hv
    rw [Bool.and_eq_true, decide_eq_true_eq] at hv
    have hmem := hq _ h0
    have e := PT.var (bd := bd) (r := rest) hk
    have ht2 : u.t = t.fn.data.toList := ht
    rw [ht2, if_pos hmem, Lx.ofL_self] at e
    have e2 : t = .mk 0 t.fn [] := by
      conv => lhs; rw [t.eta, h.1, List.eq_nil_of_length_eq_zero hv.1]
    rw [e2]
    exact e
  · rw [if_neg hv] at hL
    obtain ⟨hn, ha⟩ := h.2.resolve_left hv
    obtain ⟨u, L', rfl, hk, ht, hL'⟩ := kts_cons hL
    have ht2 : u.t = t.fn.data.toList := ht
    by_cases h0 : t.args.length = 0
    · rw [if_pos h0] at hL'
      obtain rfl := kts_nil hL'
      have e := PT.const (bd := bd) hk hr
      rw [ht2, Lx.ofL_self] at e
      have e2 : t = .mk 0 t.fn [] := by
        conv => lhs; rw [t.eta, h.1, List.eq_nil_of_length_eq_zero h0]
      rw [e2]
      exact e
    · rw [if_neg h0] at hL'
      obtain ⟨A, B, rfl, hA, hB⟩ := kts_app hL'
      obtain ⟨b, B', rfl, hbk, hbt, hB'⟩ := kts_cons hB
      obtain rfl := kts_nil hB'
      have key : ∀ (l : List T), (∀ a ∈ l, a ∈ t.args) → ∀ a, a ∈ t.args → ∀ L rest, kts L = tkT a ++ tkT.tkTs l 44 → isM [44] rest = false → isM [40] rest = false → PTs bd (L ++ rest) (.ok (a :: l) [] rest) := by
        intro l
        induction l with
        | nil =>
          intro _ a ham L rest hL h44 h40
          rw [tkT.tkTs, List.append_nil] at hL
          exact PTs.last (ih a ham (List.all_eq_true.1 ha a ham) q bd L rest (clT_args hcl a ham) hq hL h40) h44
        | cons b r ihl =>
          intro hm a ham L rest hL h44 h40
          rw [tkT.tkTs] at hL
          obtain ⟨x, y, rfl, hx, hy⟩ := kts_app hL
          obtain ⟨c, y', rfl, hck, hct, hy'⟩ := kts_cons hy
          have hct2 : c.t = [44] := hct
          have h1 := ih a ham (List.all_eq_true.1 ha a ham) q bd x (c :: (y' ++ rest)) (clT_args hcl a ham) hq hx (isM_no (by rw [hct2]; decide))
          have h2 := ihl (fun z hz => hm z (by simp [hz])) b (hm b (by simp)) y' rest hy' h44 h40
          have h3 := PTs.more h1 (isM_yes hck hct2) h2
          simpa using h3
      cases hx : t.args with
      | nil => rw [hx] at h0; exact absurd rfl h0
      | cons a l =>
        rw [hx, tkT.tkTs] at hA
        obtain ⟨c, A', rfl, hck, hct, hA'⟩ := kts_cons hA
        have hct2 : c.t = [40] := hct
        have hbt2 : b.t = [41] := hbt
        have h1 := key l (fun z hz => by rw [hx]; simp [hz]) a (by rw [hx]; simp) A' (b :: rest) hA' (isM_no (by rw [hbt2]; decide)) (isM_no (by rw [hbt2]; decide))
        have h2 := PT.fn (bd := bd) (t := u) (r := c :: (A' ++ b :: rest)) hk (isM_yes hck hct2) h1 (isM_yes hbk hbt2)
        rw [ht2, Lx.ofL_self] at h2
        have e2 : t = .mk 0 t.fn (a :: l) := by
          conv => lhs; rw [t.eta, h.1, hx]
        rw [e2]
        simpa using h2
/-- What may stand behind a formula. -/
def Fok (r : List Tk) : Prop := isM [40] r = false ∧ isM [61] r = false ∧ isM [33, 61] r = false
theorem Fok.nil : Fok [] := ⟨rfl, rfl, rfl⟩
theorem Fok.of {t : Tk} {r : List Tk} {m : List UInt8} (h : t.t = m) (hm : m ≠ [40] ∧ m ≠ [61] ∧ m ≠ [33, 61]) : Fok (t :: r) := by
  subst h
  exact ⟨isM_no hm.1, isM_no hm.2.1, isM_no hm.2.2⟩
theorem tk_head (t : T) {L : List Tk} (h : kts L = tkT t) : ∃ u r, L = u :: r ∧ (u.k = 1 ∨ u.k = 2) ∧ (vB t = false → u.k = 1) := by
  rw [tkT_eq] at h
  by_cases hv : vB t = true
  · rw [if_pos hv] at h
    obtain ⟨u, r, rfl, hk, -, -⟩ := kts_cons h
    exact ⟨u, r, rfl, .inr hk, fun h => by rw [hv] at h; cases h⟩
  · rw [if_neg hv] at h
    obtain ⟨u, r, rfl, hk, -, -⟩ := kts_cons h
    exact ⟨u, r, rfl, .inl hk, fun _ => hk⟩
theorem head_none {u : Tk} {r : List Tk} (h : u.k = 1 ∨ u.k = 2) : headOf (u :: r) = 0 := by
  show (if u.k = 4 then _ else if u.k = 3 then _ else 0) = 0
  rw [if_neg (by omega), if_neg (by omega)]
theorem pa_atom {f : Fm} (hk : f.k = 1) (h : shB f = true) (m : List UInt8) (hm : m = [61] ∨ (m = [33, 61] ∧ pB f = false)) {q : ByteArray → Int} {bd : List (List UInt8)} {L rest : List Tk} (hcl : clF q f) (hq : Cov q bd) (hL : kts L = tkA f m) (hr : Fok rest) : PU bd (L ++ rest) (.ok (if m = [61] then f else fOp 2 [f]) [] rest) := by
  obtain ⟨hf, h⟩ := atom_form hk h
  have hc := clF_eq hcl
  unfold tkA at hL
  rcases h with ⟨hp, ht, hv, hfl, hfr⟩ | ⟨hp, hl, hrr⟩
  · rw [if_pos hp] at hL
    obtain rfl : m = [61] := by
      rcases hm with h | h
      · exact h
      · rw [hp] at h; exact absurd h.2 (by decide)
    rw [if_pos rfl]
    have hcp : clT q (predT f) := by
      have h1 := hc.1
      rw [hfl, clT] at h1
      show clT q (.mk 0 (predT f).fn (predT f).args)
      rw [clT]
      refine ⟨fun h => ?_, h1.2⟩
      have h' : vB (predT f) = true := h
      rw [hv] at h'; cases h'
    obtain ⟨u, r, e, huk, hu1⟩ := tk_head _ hL
    have h1 := pt_term _ ht q bd L rest hcp hq hL hr.1
    have h2 := PA.pred h1 hr.2.1 hr.2.2 (by rw [e]; show decide (u.k = 1) = true; rw [hu1 hv]; decide)
    have h3 := PU.atom (bd := bd) (by rw [e]; exact head_none huk) h2
    have e2 : fPred (([predT f] : List T).headD t0) = f := by
      conv => rhs; rw [hf, hfl, hfr]
      rfl
    rw [e2] at h3
    exact h3
  · rw [if_neg (by rw [hp]; decide)] at hL
    obtain ⟨x, y, rfl, hx, hy⟩ := kts_app hL
    obtain ⟨c, y', rfl, hck, hct, hy'⟩ := kts_cons hy
    have hct2 : c.t = m := hct
    obtain ⟨u, r, e, huk, -⟩ := tk_head _ hx
    have h1 := pt_term _ hl q bd x (c :: (y' ++ rest)) hc.1 hq hx (isM_no (by
      rw [hct2]
      rcases hm with h | h
      · rw [h]; decide
      · rw [h.1]; decide))
    have h2 := pt_term _ hrr q bd y' rest hc.2.1 hq hy' hr.1
    have hh : headOf (x ++ c :: (y' ++ rest)) = 0 := by rw [e]; exact head_none huk
    have e2 : fEq (([f.l] : List T).headD t0) (([f.r] : List T).headD t0) = f := hf.symm
    rcases hm with rfl | ⟨rfl, -⟩
    · have h3 := PU.atom hh (PA.eq h1 (isM_yes hck hct2) h2)
      rw [e2] at h3
      rw [if_pos rfl]
      simpa using h3
    · have h3 := PU.atom hh (PA.ne h1 (isM_no (by rw [hct2]; decide)) (isM_yes hck hct2) h2)
      rw [e2] at h3
      rw [if_neg (by decide)]
      simpa using h3
/-- What is no atom. -/
theorem op_form {f : Fm} (hk : f.k ≠ 1) (h : shB f = true) : f = .mk f.k f.nm t0 t0 f.kids ∧ (f.k ≠ 7 → f.k ≠ 8 → f.nm = e0) := by
  rw [shB_eq] at h
  simp only [Bool.and_eq_true, decide_eq_true_eq] at h
  obtain ⟨-, h2, h3, -⟩ := h
  obtain ⟨hl, hr⟩ := termsB_zero hk h3
  refine ⟨by conv => lhs; rw [f.eta, hl, hr], fun h7 h8 => ?_⟩
  unfold nameB at h2
  rw [if_neg (by unfold qB; simp [h7, h8])] at h2
  exact of_decide_eq_true h2
theorem up_same {k : Int} {n : ByteArray} {q : ByteArray → Int} (h7 : k ≠ 7) (h8 : k ≠ 8) : upQ k n q = q := by
  unfold upQ
  rw [if_neg (by omega)]
theorem Cov.up {k : Int} {n : ByteArray} {q : ByteArray → Int} {bd : List (List UInt8)} (h : Cov q bd) (hk : k = 7 ∨ k = 8) : Cov (upQ k n q) ([n.data.toList] ++ bd) := by
  intro s hs
  unfold upQ at hs
  rw [if_pos hk] at hs
  by_cases e : s = n
  · subst e; simp
  · rw [if_neg e] at hs
    simp [h s hs]
theorem pu_formula (f : Fm) : shB f = true → ∀ (q : ByteArray → Int) (bd : List (List UInt8)) (L rest : List Tk), clF q f → Cov q bd → kts L = tkF f → Fok rest → PU bd (L ++ rest) (.ok f [] rest) := by
  refine Fm.ind (P := fun f => shB f = true → ∀ (q : ByteArray → Int) (bd : List (List UInt8)) (L rest : List Tk), clF q f → Cov q bd → kts L = tkF f → Fok rest → PU bd (L ++ rest) (.ok f [] rest)) (fun f ih => ?_) f
  intro h q bd L rest hcl hq hL hr
  obtain ⟨hn, hk⟩ := kids_count h
  have hcs := (clF_eq hcl).2.2
  rw [tkF_eq] at hL
  unfold tkJ at hL
  have hkd := kind_of hn
  by_cases k1 : f.k = 1
  · rw [if_pos k1] at hL
    have := pa_atom k1 h [61] (.inl rfl) hcl hq hL hr
    rwa [if_pos rfl] at this
  rw [if_neg k1] at hL
  obtain ⟨hform, hnm⟩ := op_form k1 h
  by_cases k2 : f.k = 2
  · rw [if_pos k2] at hL
    rw [k2] at hn
    obtain ⟨a, ha⟩ := kids_one' hn
    have hka := hk a (by rw [ha]; simp)
    have hca : clF q a := by
      rw [up_same (by omega) (by omega), ha, clF.clFs] at hcs
      exact hcs.1
    have hf : f = fOp 2 [a] := by
      conv => lhs; rw [hform, hnm (by omega) (by omega), k2, ha]
      rfl
    rw [ha] at hL
    have hL' : kts L = if a.k = 1 ∧ pB a = false then tkA a [33, 61] else (4, [126]) :: tkF a := hL
    rw [hf]
    by_cases hc : a.k = 1 ∧ pB a = false
    · rw [if_pos hc] at hL'
      have := pa_atom hc.1 hka [33, 61] (.inr ⟨rfl, hc.2⟩) hca hq hL' hr
      rwa [if_neg (by decide)] at this
    · rw [if_neg hc] at hL'
      obtain ⟨u, L', rfl, huk, hut, hL2⟩ := kts_cons hL'
      have hut2 : u.t = [126] := hut
      have h1 := ih a (by rw [ha]; simp) hka q bd L' rest hca hq hL2 hr
      refine PU.not (l := u :: (L' ++ rest)) ?_ h1
      show (if u.k = 4 then (if u.t = [126] then 1 else _) else _) = 1
      rw [if_pos huk, if_pos hut2]
  rw [if_neg k2] at hL
  by_cases k7 : f.k = 7 ∨ f.k = 8
  · rw [if_pos k7] at hL
    have hn1 : (f.kids.length : Int) = 1 := by rw [hn]; rcases k7 with e | e <;> rw [e] <;> decide
    obtain ⟨a, ha⟩ := kids_one' hn1
    rw [ha, clF.clFs] at hcs
    rw [ha] at hL
    obtain ⟨u, L1, rfl, huk, hut, hL⟩ := kts_cons hL
    obtain ⟨v, L2, rfl, hvk, hvt, hL⟩ := kts_cons hL
    obtain ⟨n, L3, rfl, hnk, hnt, hL⟩ := kts_cons hL
    obtain ⟨c, L4, rfl, hck, hct, hL⟩ := kts_cons hL
    obtain ⟨d, L5, rfl, hdk, hdt, hL⟩ := kts_cons hL
    have hut2 : u.t = (sgn f.k).data.toList := hut
    have hvt2 : v.t = [91] := hvt
    have hnt2 : n.t = f.nm.data.toList := hnt
    have hct2 : c.t = [93] := hct
    have hdt2 : d.t = [58] := hdt
    have h1 := ih a (by rw [ha]; simp) (hk a (by rw [ha]; simp)) _ _ L5 rest hcs.1 (hq.up k7 (n := f.nm)) hL hr
    have hv := PV.last (t := n) (r := c :: d :: (L5 ++ rest)) hnk (isM_no (by rw [hct2]; decide))
    rw [hnt2] at hv
    have hh : headOf (u :: v :: n :: c :: d :: (L5 ++ rest)) = if f.k = 7 then 2 else 3 := by
      show (if u.k = 4 then (if u.t = [126] then 1 else if u.t = [33] then 2 else if u.t = [63] then 3 else if u.t = [40] then 6 else 0) else _) = _
      rw [if_pos huk, hut2]
      rcases k7 with e | e <;> rw [e] <;> decide
    have h2 := PU.q5 (bd := bd) (l := u :: v :: n :: c :: d :: (L5 ++ rest)) (by rw [hh]; split <;> simp) (isM_yes hvk hvt2) hv (isM_yes hck hct2) (isM_yes hdk hdt2) h1
    have e2 : wrapQ (if headOf (u :: v :: n :: c :: d :: (L5 ++ rest)) = 2 then 7 else 8) [f.nm.data.toList] a = f := by
      rw [hh]
      have e3 : (if (if f.k = 7 then 2 else 3) = 2 then (7 : Int) else 8) = f.k := by
        rcases k7 with e | e <;> rw [e] <;> decide
      rw [e3]
      show fQ f.k (ofL f.nm.data.toList) a = f
      rw [Lx.ofL_self]
      conv => rhs; rw [hform, ha]
      rfl
    rw [e2] at h2
    exact h2
  rw [if_neg k7] at hL
  have hf0 : f = fOp f.k f.kids := by
    conv => lhs; rw [hform, hnm (by omega) (by omega)]
    rfl
  by_cases k9 : f.k = 9 ∨ f.k = 10
  · rw [if_pos k9] at hL
    have hn0 : f.kids = [] := by
      have : (f.kids.length : Int) = 0 := by rw [hn]; rcases k9 with e | e <;> rw [e] <;> decide
      exact List.eq_nil_of_length_eq_zero (by omega)
    obtain ⟨u, L1, rfl, huk, hut, hL⟩ := kts_cons hL
    obtain rfl := kts_nil hL
    have hut2 : u.t = (sgn f.k).data.toList := hut
    have hu3 : u.k = 3 := huk
    rw [hf0, hn0]
    rcases k9 with e | e
    · rw [e] at hut2 ⊢
      refine PU.yes (l := u :: rest) ?_
      show (if u.k = 4 then _ else if u.k = 3 then (if u.t = Lx.dTrue then 4 else 5) else 0) = 4
      rw [if_neg (by omega), if_pos hu3, if_pos (show u.t = Lx.dTrue from hut2)]
    · rw [e] at hut2 ⊢
      refine PU.nope (l := u :: rest) ?_
      show (if u.k = 4 then _ else if u.k = 3 then (if u.t = Lx.dTrue then 4 else 5) else 0) = 5
      rw [if_neg (by omega), if_pos hu3, if_neg (by rw [hut2]; decide)]
  rw [if_neg k9] at hL
  have k3 : f.k = 3 ∨ f.k = 4 ∨ f.k = 5 ∨ f.k = 6 := by omega
  have hn2 : (f.kids.length : Int) = 2 := by rw [hn]; rcases k3 with e | e | e | e <;> rw [e] <;> decide
  obtain ⟨a, b, ha⟩ := kids_two' hn2
  rw [up_same (by omega) (by omega), ha, clF.clFs, clF.clFs] at hcs
  rw [ha] at hL
  obtain ⟨u, L1, rfl, huk, hut, hL⟩ := kts_cons hL
  have hL' : kts L1 = tkF a ++ ((4, (sgn f.k).data.toList) :: (tkF b ++ [(4, [41])])) := hL
  obtain ⟨A, L2, rfl, hA, hL⟩ := kts_app hL'
  obtain ⟨s, L3, rfl, hsk, hst, hL⟩ := kts_cons hL
  obtain ⟨B, L4, rfl, hB, hL⟩ := kts_app hL
  obtain ⟨c, L5, rfl, hck, hct, hL⟩ := kts_cons hL
  obtain rfl := kts_nil hL
  have hut2 : u.t = [40] := hut
  have hst2 : s.t = (sgn f.k).data.toList := hst
  have hct2 : c.t = [41] := hct
  have hFs : Fok (s :: (B ++ c :: rest)) := Fok.of hst2 (by rcases k3 with e | e | e | e <;> rw [e] <;> decide)
  have hFc : Fok (c :: rest) := Fok.of hct2 (by decide)
  have h1 := ih a (by rw [ha]; simp) (hk a (by rw [ha]; simp)) q bd A (s :: (B ++ c :: rest)) hcs.1 hq hA hFs
  have h2 := ih b (by rw [ha]; simp) (hk b (by rw [ha]; simp)) q bd B (c :: rest) hcs.2.1 hq hB hFc
  have hj : (joinOf (s :: (B ++ c :: rest)) : Int) = f.k := by
    have e0 : joinOf (s :: (B ++ c :: rest)) = if s.k = 4 then (if s.t = [61, 62] then 5 else if s.t = [60, 61, 62] then 6 else if s.t = [38] then 3 else if s.t = [124] then 4 else 0) else 0 := rfl
    rw [e0, if_pos hsk, hst2]
    rcases k3 with e | e | e | e <;> rw [e] <;> decide
  have hjc : joinOf (c :: rest) = 0 := by
    have e0 : joinOf (c :: rest) = if c.k = 4 then (if c.t = [61, 62] then 5 else if c.t = [60, 61, 62] then 6 else if c.t = [38] then 3 else if c.t = [124] then 4 else 0) else 0 := rfl
    rw [e0, if_pos hck, hct2]
    decide
  have hpf : PF bd (A ++ s :: (B ++ c :: rest)) (.ok f [] (c :: rest)) := by
    by_cases h5 : f.k = 5 ∨ f.k = 6
    · have h3 := PF.two h1 (by omega) h2
      rw [hj] at h3
      have e2 : fOp f.k [a, b] = f := by conv => rhs; rw [hf0, ha]
      rw [e2] at h3
      exact h3
    · have h34 : f.k = 3 ∨ f.k = 4 := by omega
      obtain ⟨m, hm, hfm⟩ : ∃ m : Nat, (m = 1 ∨ m = 2) ∧ f.k = ((m + 2 : Nat) : Int) := by
        rcases h34 with e | e
        · exact ⟨1, .inl rfl, e⟩
        · exact ⟨2, .inr rfl, e⟩
      have hjm : joinOf (s :: (B ++ c :: rest)) = m + 2 := by omega
      have e2 : fOp ((m + 2 : Nat) : Int) [a, b] = f := by conv => rhs; rw [hf0, ha, hfm]
      have h3 := PM.more (m := m) (f := a) hjm h2 (PM.stop (bd := bd) (f := fOp ((m + 2 : Nat) : Int) [a, b]) (by rw [hjc]; omega))
      rw [e2] at h3
      have h4 := PF.many h1 hjm hm h3
      simpa using h4
  have h6 : headOf (u :: (A ++ s :: (B ++ c :: rest))) = 6 := by
    show (if u.k = 4 then (if u.t = [126] then 1 else if u.t = [33] then 2 else if u.t = [63] then 3 else if u.t = [40] then 6 else 0) else _) = 6
    rw [if_pos huk, hut2]
    decide
  have h7 := PU.par (l := u :: (A ++ s :: (B ++ c :: rest))) h6 hpf (isM_yes hck hct2)
  simpa using h7
/-- The text of a closed formula that is right is read as it. -/
theorem fof_back {f : Fm} (h : rightE f = 0) (hcl : clF (fun _ => 0) f) : FofR (ofL (shF f)) f 0 0 := by
  have hs := rightE_sh h
  obtain ⟨L, hL, e⟩ := lx_formula f hs 0 [] rfl
  have e2 : lexL 0 (ofL (shF f)).data.toList = (L, 0, 0) := by
    rw [Lx.ofL_data]
    rw [List.append_nil, Lx.lexL_nil] at e
    rw [e]
    simp [addD]
  have h1 := pu_formula f hs (fun _ => 0) [] L [] hcl (fun s hs => absurd hs (by simp)) hL Fok.nil
  rw [List.append_nil] at h1
  have h2 := PF.only h1 rfl
  have h3 : limE f.wide f.size f.depth = 0 := by
    unfold rightE at h
    rwa [if_pos hs] at h
  unfold FofR
  rw [e2]
  exact .inr (.inr ⟨rfl, f, [], h2, .inr (.inr ⟨h3, rfl, rfl, rfl, rfl⟩)⟩)
theorem shT_len (t : T) : trB t = true → ((shT t).length : Int) + 1 ≤ 140 * t.size := by
  refine T.ind (P := fun t => trB t = true → ((shT t).length : Int) + 1 ≤ 140 * t.size) (fun t ih => ?_) t
  intro h
  rw [trB_eq] at h
  simp only [Bool.and_eq_true, Bool.or_eq_true, decide_eq_true_eq] at h
  have hp : 1 ≤ t.size := by rw [T.size_eq]; have := sum_pos t.args; omega
  rw [shT_eq]
  by_cases hv : vB t = true
  · rw [if_pos hv]
    unfold vB Lx.vrB at hv
    simp only [Bool.and_eq_true, decide_eq_true_eq] at hv
    have := hv.2.1.1.2
    omega
  · rw [if_neg hv]
    obtain ⟨hn, ha⟩ := h.2.resolve_left hv
    have hl : t.fn.data.toList.length ≤ 63 := by
      unfold Lx.nmB at hn
      simp only [Bool.and_eq_true, decide_eq_true_eq] at hn
      exact hn.1.2
    have h1 : (Lx.shL t.fn.data.toList).length ≤ 128 := by
      unfold Lx.shL
      have := Lx.escL_len t.fn.data.toList
      split
      · omega
      · simp only [List.length_cons, List.length_append, List.length_nil]; omega
    have key : ∀ (l : List T), (∀ a ∈ l, a ∈ t.args) → ∀ c : UInt8, ((shT.shTs l c).length : Int) ≤ 140 * (l.map T.size).sum := by
      intro l
      induction l with
      | nil => intro _ c; rw [shT.shTs]; simp
      | cons a r ihl =>
        intro hm c
        rw [shT.shTs]
        have h2 := ih a (hm a (by simp)) (List.all_eq_true.1 ha a (hm a (by simp)))
        have h3 := ihl (fun b hb => hm b (by simp [hb])) 44
        simp only [List.length_cons, List.length_append, List.map_cons, List.sum_cons]
        omega
    have h4 := key t.args (fun _ h => h) 40
    rw [T.size_eq]
    split
    · simp only [List.append_nil]; have := sum_pos t.args; omega
    · simp only [List.length_append, List.length_cons, List.length_nil]; omega
theorem shA_len {f : Fm} (hk : f.k = 1) (h : shB f = true) (sg : ByteArray) (hs : sg.data.toList.length ≤ 2) : ((shA f sg).length : Int) + 100 ≤ 140 * f.size := by
  have h0 := fm_size_eq f
  have hp := sizes_pos f.kids
  have hl0 := tsize_pos f.l
  have hr0 := tsize_pos f.r
  rw [if_pos hk] at h0
  obtain ⟨-, h⟩ := atom_form hk h
  unfold shA
  rcases h with ⟨hp, ht, -, hfl, -⟩ | ⟨hp, hl, hrr⟩
  · rw [if_pos hp]
    have h1 := shT_len _ ht
    have e : (predT f).size = f.l.size := by
      rw [T.size_eq, T.size_eq]
      rfl
    omega
  · rw [if_neg (by rw [hp]; decide)]
    have h1 := shT_len _ hl
    have h2 := shT_len _ hrr
    simp only [List.length_append, List.length_cons, List.length_nil]
    omega
theorem shF_len (f : Fm) : shB f = true → ((shF f).length : Int) + 1 ≤ 140 * f.size := by
  refine Fm.ind (P := fun f => shB f = true → ((shF f).length : Int) + 1 ≤ 140 * f.size) (fun f ih => ?_) f
  intro h
  obtain ⟨hn, hk⟩ := kids_count h
  have h0 := fm_size_eq f
  rw [shF_eq]
  unfold shJ
  have hkd := kind_of hn
  by_cases k1 : f.k = 1
  · rw [if_pos k1]
    have := shA_len k1 h ⟨#[61]⟩ (by decide)
    omega
  rw [if_neg k1]
  rw [if_neg k1] at h0
  by_cases k2 : f.k = 2
  · rw [if_pos k2]
    rw [k2] at hn
    obtain ⟨a, ha⟩ := kids_one' hn
    have hka := hk a (by rw [ha]; simp)
    have iha := ih a (by rw [ha]; simp) hka
    rw [ha, Fm.size.sizes, Fm.size.sizes] at h0
    rw [ha]
    show ((shNg a (shF a)).length : Int) + 1 ≤ _
    unfold shNg
    by_cases hc : a.k = 1 ∧ pB a = false
    · rw [if_pos hc]
      have := shA_len hc.1 hka ⟨#[33, 61]⟩ (by decide)
      omega
    · rw [if_neg hc]
      simp only [List.length_append, List.length_cons, List.length_nil]
      omega
  rw [if_neg k2]
  by_cases k7 : f.k = 7 ∨ f.k = 8
  · rw [if_pos k7]
    have hn1 : (f.kids.length : Int) = 1 := by rw [hn]; rcases k7 with e | e <;> rw [e] <;> decide
    obtain ⟨a, ha⟩ := kids_one' hn1
    have iha := ih a (by rw [ha]; simp) (hk a (by rw [ha]; simp))
    rw [ha, Fm.size.sizes, Fm.size.sizes] at h0
    have hnb : f.nm.data.toList.length ≤ 63 := by
      rw [shB_eq] at h
      simp only [Bool.and_eq_true] at h
      have h2 := h.2.1
      unfold nameB at h2
      rw [if_pos (by unfold qB; simpa using k7)] at h2
      unfold Lx.vrB at h2
      simp only [Bool.and_eq_true, decide_eq_true_eq] at h2
      exact h2.1.1.2
    have hsg : (sgn f.k).data.toList.length = 1 := by rcases k7 with e | e <;> rw [e] <;> decide
    rw [ha]
    simp only [List.map_cons, List.map_nil, List.headD_cons, List.length_append, List.length_cons, List.length_nil]
    omega
  rw [if_neg k7]
  by_cases k9 : f.k = 9 ∨ f.k = 10
  · rw [if_pos k9]
    have hsg : (sgn f.k).data.toList.length ≤ 6 := by rcases k9 with e | e <;> rw [e] <;> decide
    have := sizes_pos f.kids
    omega
  rw [if_neg k9]
  have k3 : f.k = 3 ∨ f.k = 4 ∨ f.k = 5 ∨ f.k = 6 := by omega
  have hn2 : (f.kids.length : Int) = 2 := by rw [hn]; rcases k3 with e | e | e | e <;> rw [e] <;> decide
  obtain ⟨a, b, ha⟩ := kids_two' hn2
  have iha := ih a (by rw [ha]; simp) (hk a (by rw [ha]; simp))
  have ihb := ih b (by rw [ha]; simp) (hk b (by rw [ha]; simp))
  rw [ha, Fm.size.sizes, Fm.size.sizes, Fm.size.sizes] at h0
  have hsg : (sgn f.k).data.toList.length ≤ 3 := by rcases k3 with e | e | e | e <;> rw [e] <;> decide
  rw [ha]
  simp only [List.map_cons, List.map_nil, List.headD_cons, List.drop_succ_cons, List.drop_zero, List.length_append, List.length_cons, List.length_nil]
  omega
end
section
open Go.RowKit Go.Maps
def Emp (g : ByteArray → Option Int) : Prop := ∀ s : ByteArray, s.size ≤ maxLen → g s = none
theorem Emp.not {g : ByteArray → Option Int} {s : ByteArray} {c : Int} (hs : s.size ≤ maxLen) (h : Emp (fput g s c)) : False := by have := h s hs; simp [fput] at this
abbrev tsum (l : List T) : Int := (l.map T.size).sum
theorem tsum_step {l : List T} {i : Nat} (h : i < l.length) : tsum (l.drop i) = 1 + tsum l[i].args + tsum (l.drop (i + 1)) := by
  unfold tsum
  rw [List.drop_eq_getElem_cons h, List.map_cons, List.sum_cons, T.size_eq]
theorem clT_mk {q : ByteArray → Int} {t : T} (h : vB t = true → 0 < q t.fn) (ha : ∀ a ∈ t.args, clT q a) : clT q t := by
  cases t with
  | mk v fn ts =>
    rw [clT]
    refine ⟨h, ?_⟩
    have key : ∀ l : List T, (∀ a ∈ l, clT q a) → clT.clTs q l := by
      intro l
      induction l with
      | nil => intro _; rw [clT.clTs]; trivial
      | cons a r ih => intro hl; rw [clT.clTs]; exact ⟨hl a (by simp), ih fun b hb => hl b (by simp [hb])⟩
    exact key ts ha
/-- The free names that were met; k at the most, and none more often. -/
structure Mt (mm : Nat) (g : ByteArray → Option Int) (k : Nat) (W : World) : Prop where
  nm : Nm W mm g k
  bd : ∀ s, 0 ≤ (g s).getD 0 ∧ (g s).getD 0 ≤ k
theorem Mt.same {mm k : Nat} {g : ByteArray → Option Int} {W W' : World} (h : Mt mm g k W) (hb : W'.heap[mm]? = W.heap[mm]?) : Mt mm g k W' := ⟨h.nm.same hb, h.bd⟩
theorem Mt.put {mm k : Nat} {g : ByteArray → Option Int} {W W' : World} (h : Mt mm g k W) {s : ByteArray} (hn : Nm W' mm (fput g s ((g s).getD 0 + 1)) (k + 1)) : Mt mm (fput g s ((g s).getD 0 + 1)) (k + 1) W' := by
  refine ⟨hn, fun x => ?_⟩
  rw [fput_getD]
  have h1 := h.bd x
  split
  · rename_i e; subst e; omega
  · omega
/-- What meeting these terms does. -/
def MTd (mb mm : Nat) (f : ByteArray → Option Int) (n : Nat) (l : List T) : Prop := (∀ a ∈ l, a.nsm) → l.length ≤ 9223372036854775807 → ∀ (g : ByteArray → Option Int) (k : Nat) (w : World) (sl : Value), (k : Int) + tsum l ≤ 8388608 → Nm w mb f n → Mt mm g k w → ArgsP (fun j => j ≠ mm) w sl l → Calls Tryz.prog 84 #[.agg #[.map (some mb), .map (some mm)], sl] w fun e w' => e = .returned (.tuple #[]) ∧ ∃ (g' : ByteArray → Option Int) (k' : Nat), Mt mm g' k' w' ∧ (k' : Int) ≤ k + tsum l ∧ Only [mm] w w' ∧ (Emp g' → Emp g ∧ ∀ a ∈ l, clT (gq f) a)
/-- What the loop keeps. -/
def MI (mb mm R : Nat) (q : ByteArray → Int) (g : ByteArray → Option Int) (k : Nat) (l : List T) (w : World) (i : Nat) (X : World) : Prop := Only [mm] w X ∧ X.heap[R]? = some (.cells #[.map (some mb), .map (some mm)] 52 (0, 0)) ∧ ∃ (g' : ByteArray → Option Int) (k' : Nat), Mt mm g' k' X ∧ (k' : Int) + tsum (l.drop i) ≤ k + tsum l ∧ (Emp g' → Emp g ∧ ∀ a ∈ l.take i, clT q a)
theorem meetd_step {mb mm n : Nat} {f : ByteArray → Option Int} {l : List T} (hne : mb ≠ mm) (ih : ∀ a ∈ l, MTd mb mm f n a.args) : MTd mb mm f n l := by
  intro hns hlm g k w sl hk hf hm ha
  have hb0 := below_box w (.cells #[.map (some mb), .map (some mm)] 52)
  have hz0 := (MapKept.heap_alloc w (.cells #[.map (some mb), .map (some mm)] 52)).1
  have hmlt := hm.nm.lt
  obtain ⟨sa, sc, rfl, hsc, hsm⟩ := ha.slice'
  have HB : Hid (∀ X, Only [mm] w X → Nm X mb f n ∧ ArgsP (fun j => j ≠ mm) X (.slice sa l.length sc) l) := fun X hX => ⟨hf.same (hX.block mb hf.lt (by simpa using hne)), ha.keep hX.size (fun j hj hl => ⟨hj, hX.block j hl (by simpa using hj)⟩)⟩
  obtain ⟨W0, hW0⟩ : ∃ X : World, w.alloc (.cells #[.map (some mb), .map (some mm)] 52) = X := ⟨_, rfl⟩
  obtain ⟨R, hR⟩ : ∃ R, w.heap.size = R := ⟨_, rfl⟩
  rw [hW0] at hb0 hz0
  rw [hR] at hz0
  obtain ⟨N, hN⟩ : ∃ N, l.length = N := ⟨_, rfl⟩
  have HN := hidR hN
  rw [hN] at hsc HB hlm ⊢
  have HI := hidR ih
  have HC := hidR hns
  have HKB := hidR hk
  have H0 : Hid (MI mb mm R (gq f) g k l w 0 W0) := ⟨Only.of_below hb0, hz0, g, k, hm.same (hb0.block mm hmlt), by rw [List.drop_zero]; exact Int.le_refl _, fun h => ⟨h, fun a ha => by simp at ha⟩⟩
  have hRm : R ≠ mm := by omega
  have HW0 := hidR hW0
  clear hf ha ih hns hb0 hz0 hW0 hN hm hk hmlt
  go_enter Tryz.func84, Tryz.ntmps84
  go_upto_region 1 with fail
  try simp only [hR]
  rw [show _ = W0 from HW0.out]
  clear HW0 hR
  go_wp2
  go_loopw [5, 8] (fun v5 vi wr => ∃ i : Nat, vi = .int .i64 i ∧ i ≤ N ∧ Hid (MI mb mm R (gq f) g k l w i wr)) (fun v5 vi _ => N - (intOf vi).toNat)
  case atStart => exact ⟨0, rfl, Nat.zero_le _, H0.out⟩
  case round =>
    obtain ⟨i, rfl, hi, HW⟩ := hrel
    by_cases hlt : i < N
    · have hil : i < l.length := by rw [HN.out]; exact hlt
      obtain ⟨hon, hzR, g1, k1, hm1, hbud, hcl⟩ := HW.out
      obtain ⟨hnm, has⟩ := HB.out wr hon
      rw [← HN.out] at has
      obtain ⟨b, o, s, rfl, hbm, hbl, y0, y1, y2, hss⟩ := has.nth hil
      obtain ⟨a1, c1, rfl, hac, ham⟩ := hss.slice'
      have hbG := below_box wr (tbox l[i] (.slice a1 l[i].args.length c1))
      have hzG := (MapKept.heap_alloc wr (tbox l[i] (.slice a1 l[i].args.length c1))).1
      have hmlt := hm1.nm.lt
      obtain ⟨G, hG⟩ : ∃ G, wr.heap.size = G := ⟨_, rfl⟩
      obtain ⟨X1, hX1⟩ : ∃ X : World, wr.alloc (tbox l[i] (.slice a1 l[i].args.length c1)) = X := ⟨_, rfl⟩
      have hs1 : X1.heap.size = G + 1 := by rw [← hX1, World.size_alloc, hG]
      rw [hX1] at hbG hzG
      rw [hG] at hzG hmlt
      have hmem := List.getElem_mem hil
      have hstep := tsum_step hil
      have hdp : 0 ≤ tsum (l.drop (i + 1)) := sum_pos _
      have hv := isVariable_any (T.nsm_fn (HC.out _ hmem)) (hss.keep hbG.size (fun j hj hl => ⟨hj, hbG.block j hl⟩)).args
      have hRl := (Array.getElem?_eq_some_iff.1 hzR).1
      have HK : Hid (∀ X, Only [mm] X1 X → (X.cell? ⟨R, 0, none⟩ = some (.map (some mb)) ∧ X.cell? ⟨R, 1, none⟩ = some (.map (some mm))) ∧ (X.cell? ⟨G, 0, none⟩ = some (.int .i64 l[i].v) ∧ X.cell? ⟨G, 1, none⟩ = some (.string l[i].fn) ∧ X.cell? ⟨G, 2, none⟩ = some (.slice a1 l[i].args.length c1)) ∧ Nm X mb f n ∧ Only [mm] w X ∧ ArgsP (fun j => j ≠ mm) X (.slice a1 l[i].args.length c1) l[i].args ∧ X.heap[R]? = some (.cells #[.map (some mb), .map (some mm)] 52 (0, 0))) := fun X hX => by
        have hoX : Only [mm] wr X := (Only.of_below (B := [mm]) hbG).trans hX (fun r hr => .inl hr)
        have h1 := (hoX.block R hRl (by simpa using hRm)).trans hzR
        have h2 := (hX.block G (by omega) (by simp; omega)).trans hzG
        exact ⟨⟨cell_store (vs := [_, _]) h1 rfl, cell_store (vs := [_, _]) h1 rfl⟩, ⟨cell_storeR (vs := [_, _, _]) h2 rfl, cell_storeR (vs := [_, _, _]) h2 rfl, cell_storeR (vs := [_, _, _]) h2 rfl⟩, hnm.same (hoX.block mb hnm.lt (by simpa using hne)), hon.trans hoX (fun r hr => .inl hr), hss.keep hoX.size (fun j hj hl => ⟨hj, hoX.block j hl (by simpa using hj)⟩), h1⟩
      have HREC : Hid (∀ (X : World) (g2 : ByteArray → Option Int) (k2 : Nat), Only [mm] X1 X → Mt mm g2 k2 X → (k2 : Int) ≤ k1 + 1 → (Emp g2 → Emp g1 ∧ (vB l[i] = true → 0 < gq f l[i].fn)) → Calls Tryz.prog 84 #[.agg #[.map (some mb), .map (some mm)], .slice a1 l[i].args.length c1] X fun e w' => e = .returned (.tuple #[]) ∧ MI mb mm R (gq f) g k l w (i + 1) w') := fun X g2 k2 hX hm2 hk2 hh => by
        obtain ⟨-, -, hnX, hoX, haX, hzX⟩ := HK.out X hX
        have hKB := HKB.out
        refine (HI.out l[i] hmem (T.nsm_args (HC.out _ hmem)) (by omega) g2 k2 X _ (by omega) hnX hm2 haX).mono ?_
        rintro e w' ⟨rfl, g3, k3, hm3, hk3, ho3, he3⟩
        refine ⟨rfl, hoX.trans ho3 (fun r hr => .inl hr), (ho3.block R (Array.getElem?_eq_some_iff.1 hzX).1 (by simpa using hRm)).trans hzX, g3, k3, hm3, by omega, fun he => ?_⟩
        obtain ⟨e2, ca⟩ := he3 he
        obtain ⟨e1, cv⟩ := hh e2
        obtain ⟨e0, ct⟩ := hcl e1
        refine ⟨e0, fun a ha => ?_⟩
        rw [List.take_succ_eq_append_getElem hil] at ha
        rcases List.mem_append.1 ha with h | h
        · exact ct a h
        · rw [List.mem_singleton] at h
          subst h
          exact clT_mk cv ca
      have HM1 : Hid (Mt mm g1 k1 X1) := hm1.same (hbG.block mm (by omega))
      have HKL : Hid ((k1 : Int) + 1 ≤ 8388608) := by
        have h1 := HKB.out
        have h2 : 0 ≤ tsum l[i].args := sum_pos _
        show (k1 : Int) + 1 ≤ 8388608
        omega
      have HFS : Hid (l[i].fn.size ≤ maxLen) := by have := T.nsm_fn (HC.out _ hmem); show _ ≤ _; unfold maxLen; omega
      have HX1 := hidR hX1
      obtain ⟨b1, hb1⟩ : ∃ x, vB l[i] = x := ⟨_, rfl⟩
      rw [hb1] at hv HREC
      generalize l[i] = u at y0 y1 y2 hv HK HREC HFS HX1
      obtain ⟨⟨r0, r1⟩, ⟨g0, g1', g2'⟩, -⟩ := HK.out X1 (Only.of_below (Below.refl _ _))
      clear hss has hnm hbG hzG hX1 hbl hbm hmem hb1 hzR hRl hs1 hstep hdp hbud hcl hm1 hon hmlt
      go_upto_region 4 with fail
      try simp only [hG]
      rw [show _ = X1 from HX1.out]
      clear HX1 hG
      go_wp2_with fail
      refine hv.mono ?_
      rintro e X2 ⟨rfl, hb2⟩
      have HX2 : Hid (Only [mm] X1 X2) := Only.of_below hb2
      have HM2 : Hid (Mt mm g1 k1 X2) := HM1.out.same (hb2.block mm HM1.out.nm.lt)
      clear hv hb2 r0 r1 g0 g1' g2'
      obtain ⟨⟨r0, r1⟩, ⟨g0, g1', g2'⟩, hn2, -⟩ := HK.out X2 HX2.out
      cases b1 with
      | true =>
        by_cases hbd : 0 < (f u.fn).getD 0
        · have hm := meet_bound (mm := mm) hn2 u.fn HFS.out hbd
          have HBD := hidR hbd
          clear hn2 hbd
          go_wp2_with fail
          refine hm.mono ?_
          rintro e X3 ⟨rfl, hb3⟩
          have HX3 : Hid (Only [mm] X1 X3) := HX2.out.trans (Only.of_below (B := [mm]) hb3) (fun r hr => .inl hr)
          have hrec := HREC.out X3 g1 k1 HX3.out (HM2.out.same (hb3.block mm HM2.out.nm.lt)) (by omega) (fun h => ⟨h, fun _ => HBD.out⟩)
          clear hm hb3 r0 r1 g0 g1' g2'
          obtain ⟨⟨r0, r1⟩, ⟨g0, g1', g2'⟩, -⟩ := HK.out X3 HX3.out
          go_wp2_with fail
          refine hrec.mono ?_
          rintro e X4 ⟨rfl, hM⟩
          have HM := hidR hM
          clear hrec hM r0 r1 g0 g1' g2'
          go_wp2
          go_roundw
          case rel => exact ⟨i + 1, by go_num, by omega, HM.out⟩
          case measure => simp [intOf]; omega
        · have hkl := HKL.out
          have hm := meet_free hn2 HM2.out.nm (by unfold maxLen; omega) u.fn HFS.out hbd (HM2.out.bd _).1 (by have := (HM2.out.bd u.fn).2; omega)
          clear hn2 hbd hkl
          go_wp2_with fail
          refine hm.mono ?_
          rintro e X3 ⟨rfl, hn3, ho3⟩
          have HX3 : Hid (Only [mm] X1 X3) := HX2.out.trans ho3 (fun r hr => .inl hr)
          have hrec := HREC.out X3 _ (k1 + 1) HX3.out (HM2.out.put hn3) (by omega) (fun h => (Emp.not HFS.out h).elim)
          clear hm hn3 ho3 r0 r1 g0 g1' g2'
          obtain ⟨⟨r0, r1⟩, ⟨g0, g1', g2'⟩, -⟩ := HK.out X3 HX3.out
          go_wp2_with fail
          refine hrec.mono ?_
          rintro e X4 ⟨rfl, hM⟩
          have HM := hidR hM
          clear hrec hM r0 r1 g0 g1' g2'
          go_wp2
          go_roundw
          case rel => exact ⟨i + 1, by go_num, by omega, HM.out⟩
          case measure => simp [intOf]; omega
      | false =>
        clear hn2
        have hrec := HREC.out X2 g1 k1 HX2.out HM2.out (by omega) (fun h => ⟨h, fun hh => by cases hh⟩)
        go_wp2_with fail
        refine hrec.mono ?_
        rintro e X4 ⟨rfl, hM⟩
        have HM := hidR hM
        clear hrec hM r0 r1 g0 g1' g2'
        go_wp2
        go_roundw
        case rel => exact ⟨i + 1, by go_num, by omega, HM.out⟩
        case measure => simp [intOf]; omega
    · have hin : i = N := by omega
      subst hin
      have HF : Hid (∃ (g' : ByteArray → Option Int) (k' : Nat), Mt mm g' k' wr ∧ (k' : Int) ≤ k + tsum l ∧ Only [mm] w wr ∧ (Emp g' → Emp g ∧ ∀ a ∈ l, clT (gq f) a)) := by
        obtain ⟨q1, -, g', k', q2, q3, q4⟩ := HW.out
        rw [← HN.out, List.drop_length] at q3
        rw [← HN.out, List.take_length] at q4
        refine ⟨g', k', q2, ?_, q1, q4⟩
        have : tsum [] = 0 := rfl
        omega
      go_wp2
      refine bodyPost_end (results_none rfl _ _ _) rfl ?_
      exact ⟨rfl, HF.out⟩
theorem meetdArgs {mb mm n : Nat} {f : ByteArray → Option Int} (hne : mb ≠ mm) (t : T) : MTd mb mm f n t.args := by
  refine T.ind (P := fun t => MTd mb mm f n t.args) (fun t ih => ?_) t
  exact meetd_step hne ih
theorem meetd_any {mb mm n : Nat} {f : ByteArray → Option Int} (hne : mb ≠ mm) (l : List T) : MTd mb mm f n l := meetd_step hne fun a _ => meetdArgs hne a
end
