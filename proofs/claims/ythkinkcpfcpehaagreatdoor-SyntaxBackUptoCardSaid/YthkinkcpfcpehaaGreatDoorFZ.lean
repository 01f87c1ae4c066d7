import Derived.Test.YthkinkcpfcpehaaGreatDoorFX
namespace Go.Proofs.YthkinkcpfcpehaaGreatDoor
set_option maxRecDepth 100000
section
open Go.RowKit
open Lx (Tk ofL)
theorem foldl_max_le : ∀ (l : List Int) (m c : Int), m ≤ c → (∀ a ∈ l, a ≤ c) → l.foldl max m ≤ c
  | [], m, c, h, _ => h
  | a :: r, m, c, h, ha => by rw [List.foldl_cons]; exact foldl_max_le r _ c (by have := ha a (by simp); omega) (fun b hb => ha b (by simp [hb]))
theorem depth_le {t : T} {c : Int} (h0 : 0 ≤ c) (h : ∀ a ∈ t.args, a.depth ≤ c) : t.depth ≤ c + 1 := by
  rw [T.depth_eq]
  have := foldl_max_le (t.args.map T.depth) 0 c h0 (fun a ha => by obtain ⟨b, hb, rfl⟩ := List.mem_map.1 ha; exact h b hb)
  omega
theorem dm_mem : ∀ (l : List Part) (m : Int), ∀ q ∈ l, (q.1.length : Int) + 1 ≤ l.foldl (fun m q => max m ((q.1.length : Int) + 1)) m
  | a :: r, m, q, h => by
    rw [List.foldl_cons]
    rcases List.mem_cons.1 h with rfl | h
    · have : ∀ (l : List Part) (m : Int), m ≤ l.foldl (fun m q => max m ((q.1.length : Int) + 1)) m := by
        intro l
        induction l with
        | nil => intro m; exact Int.le_refl _
        | cons b s ih => intro m; rw [List.foldl_cons]; have := ih (max m ((b.1.length : Int) + 1)); omega
      have := this r (max m ((q.1.length : Int) + 1))
      omega
    · exact dm_mem r _ q h
theorem short_of {t : T} (h : t.depth ≤ 1048577) : Short t := fun q hq => by
  have h1 := dm_mem (t.parts []) 0 q hq
  have h2 := dm_parts t
  unfold dm at h2
  omega
theorem sum_pos (l : List T) : 0 ≤ (l.map T.size).sum := by
  induction l with
  | nil => decide
  | cons a r ih => rw [List.map_cons, List.sum_cons]; have := tsz a; omega
where tsz (t : T) : 0 ≤ t.size := by have := size_parts t []; omega
theorem sum_app (l m : List T) : ((l ++ m).map T.size).sum = (l.map T.size).sum + (m.map T.size).sum := by simp
theorem pTerm_gr {bd : List (List UInt8)} : ∀ (n : Nat) (b : Bool) (l : List Tk) (us : List T) (fr q : List Tk), pTerm bd n b l = some (.ok us fr q) → (us.map T.size).sum + q.length ≤ l.length ∧ ∀ t ∈ us, 3 * t.depth + q.length ≤ l.length + 2
  | 0, _, _, _, _, _, h => by cases h
  | n + 1, false, l, us, fr, q, h => by
    have one : ∀ (s : ByteArray) (r : List Tk), (([T.mk 0 s []]).map T.size).sum + (r.length : Int) ≤ r.length + 1 ∧ ∀ t ∈ [T.mk 0 s []], 3 * t.depth + r.length ≤ r.length + 1 + 2 := by
      intro s r
      have e : (T.mk 0 s []).size = 1 := by rw [T.size_eq]; rfl
      have e2 : (T.mk 0 s []).depth = 1 := by rw [T.depth_eq]; rfl
      refine ⟨by simp [e]; omega, fun t ht => ?_⟩
      simp at ht
      subst ht
      rw [e2]; omega
    cases l with
    | nil => simp [pTerm] at h
    | cons t r =>
      simp only [pTerm] at h
      by_cases h1 : t.k = 2
      · simp only [h1, if_true, Option.some.injEq, Pr.ok.injEq] at h
        obtain ⟨rfl, _, rfl⟩ := h
        have := one (ofL t.t) r
        simpa using this
      · rw [if_neg h1] at h
        by_cases h2 : t.k = 1
        · rw [if_pos h2] at h
          by_cases h3 : isM [40] r = true
          · rw [if_pos h3] at h
            obtain ⟨t1, r1, rfl, _, _⟩ := isM_cons h3
            simp only [List.tail_cons] at h
            cases hy : pTerm bd n true r1 with
            | none => rw [hy] at h; cases h
            | some y =>
              rw [hy] at h
              cases y with
              | no q => simp at h
              | ok vs fr1 q1 =>
                have hl := pTerm_gr n true r1 vs fr1 q1 hy
                simp only at h
                by_cases h4 : isM [41] q1 = true
                · rw [if_pos h4] at h
                  obtain ⟨t2, r2, rfl, _, _⟩ := isM_cons h4
                  simp only [List.tail_cons, Option.some.injEq, Pr.ok.injEq] at h
                  obtain ⟨rfl, _, rfl⟩ := h
                  simp only [List.length_cons] at hl ⊢
                  have e : (T.mk 0 (ofL t.t) vs).size = 1 + (vs.map T.size).sum := T.size_eq _
                  have hs := sum_pos vs
                  refine ⟨by simp [e]; omega, fun u hu => ?_⟩
                  simp at hu
                  subst hu
                  have hc : ∀ a ∈ (T.mk 0 (ofL t.t) vs).args, a.depth ≤ ((r1.length : Int) + 1 - r2.length) / 3 := fun a ha => by
                    have := hl.2 a ha
                    omega
                  have hd := depth_le (t := T.mk 0 (ofL t.t) vs) (c := ((r1.length : Int) + 1 - r2.length) / 3) (by omega) hc
                  omega
                · rw [if_neg h4] at h; simp at h
          · rw [if_neg h3] at h
            simp only [Option.some.injEq, Pr.ok.injEq] at h
            obtain ⟨rfl, _, rfl⟩ := h
            have := one (ofL t.t) r
            simpa using this
        · rw [if_neg h2] at h; simp at h
  | n + 1, true, l, us, fr, q, h => by
    rw [pTerm] at h
    cases hy : pTerm bd n false l with
    | none => rw [hy] at h; cases h
    | some y =>
      rw [hy] at h
      cases y with
      | no q => simp at h
      | ok vs fr1 q1 =>
        have hl := pTerm_gr n false l vs fr1 q1 hy
        simp only at h
        by_cases h3 : isM [44] q1 = true
        · rw [if_pos h3] at h
          obtain ⟨t2, r2, rfl, _, _⟩ := isM_cons h3
          simp only [List.tail_cons] at h
          cases hz : pTerm bd n true r2 with
          | none => rw [hz] at h; cases h
          | some z =>
            rw [hz] at h
            cases z with
            | no q => simp at h
            | ok bs fr2 q2 =>
              have hl2 := pTerm_gr n true r2 bs fr2 q2 hz
              simp only [Option.some.injEq, Pr.ok.injEq] at h
              obtain ⟨rfl, _, rfl⟩ := h
              simp only [List.length_cons] at hl
              have h1 := sum_pos vs
              have h2 := sum_pos bs
              refine ⟨by rw [sum_app]; omega, fun t ht => ?_⟩
              rcases List.mem_append.1 ht with ht | ht
              · have := hl.2 t ht; omega
              · have := hl2.2 t ht; omega
        · rw [if_neg h3] at h
          simp only [Option.some.injEq, Pr.ok.injEq] at h
          obtain ⟨rfl, _, rfl⟩ := h
          exact hl
theorem pVars_gr : ∀ (n : Nat) (l : List Tk) (vs : List (List UInt8)) (fr q : List Tk), pVars n l = some (.ok vs fr q) → vs.length + q.length ≤ l.length
  | 0, _, _, _, _, h => by cases h
  | n + 1, [], _, _, _, h => by simp [pVars] at h
  | n + 1, t :: r, vs, fr, q, h => by
    rw [pVars] at h
    by_cases h1 : t.k = 2
    · rw [if_pos h1] at h
      by_cases h2 : isM [44] r = true
      · rw [if_pos h2] at h
        obtain ⟨t1, r1, rfl, _, _⟩ := isM_cons h2
        simp only [List.tail_cons] at h
        cases hy : pVars n r1 with
        | none => rw [hy] at h; cases h
        | some y =>
          rw [hy] at h
          cases y with
          | no q => simp at h
          | ok a b c =>
            have := pVars_gr n r1 a b c hy
            simp only [Option.some.injEq, Pr.ok.injEq] at h
            obtain ⟨rfl, _, rfl⟩ := h
            simp only [List.length_cons]; omega
      · rw [if_neg h2] at h
        simp only [Option.some.injEq, Pr.ok.injEq] at h
        obtain ⟨rfl, _, rfl⟩ := h
        simp; omega
    · rw [if_neg h1] at h; simp at h
theorem fEq_size (l r : T) : (fEq l r).size = 1 + l.size + r.size := by
  show Fm.size (.mk 1 e0 l r []) = _
  rw [Fm.size, if_pos rfl, Fm.size.sizes]; omega
theorem fOp_size {k : Int} (hk : k ≠ 1) (ks : List Fm) : (fOp k ks).size = 1 + Fm.size.sizes ks := size_kids (f := .mk k e0 t0 t0 ks) hk
theorem wrapQ_size {k : Int} (hk : k ≠ 1) (f : Fm) : ∀ vs : List (List UInt8), (wrapQ k vs f).size = vs.length + f.size
  | [] => by simp [wrapQ]
  | v :: r => by
    have ih := wrapQ_size hk f r
    show (fQ k (ofL v) (wrapQ k r f)).size = _
    have : (fQ k (ofL v) (wrapQ k r f)).size = 1 + Fm.size.sizes [wrapQ k r f] := size_kids (f := .mk k (ofL v) t0 t0 [wrapQ k r f]) hk
    rw [this, Fm.size.sizes, Fm.size.sizes, ih]
    simp only [List.length_cons]; omega
/-- A single term is read. -/
theorem pTerm_one {bd : List (List UInt8)} {n : Nat} {l : List Tk} {us : List T} {fr q : List Tk} (h : pTerm bd n false l = some (.ok us fr q)) : ∃ t, us = [t] ∧ t.size + q.length ≤ l.length ∧ 3 * t.depth + q.length ≤ l.length + 2 := by
  have hg := pTerm_gr n false l us fr q h
  have h1 : ∃ t, us = [t] := by
    cases n with
    | zero => cases h
    | succ n =>
      cases l with
      | nil => simp [pTerm] at h
      | cons t r =>
        simp only [pTerm] at h
        repeat' split at h
        all_goals simp at h
        all_goals exact ⟨_, h.1.symm⟩
  obtain ⟨t, rfl⟩ := h1
  refine ⟨t, rfl, ?_, hg.2 t (by simp)⟩
  have := hg.1
  simpa using this
theorem pAtom_gr {bd : List (List UInt8)} {n : Nat} {l : List Tk} {f : Fm} {fr q : List Tk} (h : pAtom bd n l = some (.ok f fr q)) : f.size + 3 * q.length ≤ 3 * l.length := by
  unfold pAtom at h
  cases hy : pTerm bd n false l with
  | none => rw [hy] at h; cases h
  | some y =>
    rw [hy] at h
    cases y with
    | no q => simp at h
    | ok us fr1 q1 =>
      have hl := pTerm_len n false l _ hy
      obtain ⟨t, rfl, ht, _⟩ := pTerm_one hy
      simp only at h hl
      have key : ∀ m, isM m q1 = true → ∀ {g : List T → Fm}, (∀ b, (g [b]).size ≤ 2 + t.size + b.size) → (match pTerm bd n false q1.tail with | none => none | some (.no q') => some (.no q') | some (.ok bs fr' q') => some (.ok (g bs) (fr1 ++ fr') q') : Option (Pr Fm)) = some (.ok f fr q) → f.size + 3 * q.length ≤ 3 * l.length := by
        intro m hm g hgs hx
        obtain ⟨t1, r1, rfl, _, _⟩ := isM_cons hm
        simp only [List.tail_cons] at hx
        cases hz : pTerm bd n false r1 with
        | none => rw [hz] at hx; cases hx
        | some z =>
          rw [hz] at hx
          cases z with
          | no q' => simp at hx
          | ok bs fr' q' =>
            obtain ⟨b, rfl, hb, _⟩ := pTerm_one hz
            simp only [Option.some.injEq, Pr.ok.injEq] at hx
            obtain ⟨rfl, _, rfl⟩ := hx
            have := hgs b
            simp only [List.length_cons] at ht
            have h0 := sum_pos.tsz t
            have h1 := sum_pos.tsz b
            have hl2 := pTerm_len n false r1 _ hz
            simp only at hl2
            omega
      by_cases h1 : isM [61] q1 = true
      · rw [if_pos h1] at h
        exact key _ h1 (g := fun bs => fEq t (bs.headD t0)) (fun b => by show (fEq t b).size ≤ _; rw [fEq_size]; omega) h
      · rw [if_neg h1] at h
        by_cases h2 : isM [33, 61] q1 = true
        · rw [if_pos h2] at h
          exact key _ h2 (g := fun bs => fOp 2 [fEq t (bs.headD t0)]) (fun b => by show (fOp 2 [fEq t b]).size ≤ _; rw [fOp_size (by decide), Fm.size.sizes, Fm.size.sizes, fEq_size]; omega) h
        · rw [if_neg h2] at h
          by_cases h3 : isK 1 l = true
          · rw [if_pos h3] at h
            simp only [Option.some.injEq, Pr.ok.injEq] at h
            obtain ⟨rfl, _, rfl⟩ := h
            have e : (fPred t).size = 1 + t.size + 1 := by
              show Fm.size (.mk 1 e0 (.mk t.v (⟨#[64]⟩ ++ t.fn) t.args) trueT []) = _
              rw [Fm.size, if_pos rfl, Fm.size.sizes, T.size_eq (.mk _ _ _), T.size_eq t, T.size_eq trueT]
              show 1 + (1 + (t.args.map T.size).sum + (1 + 0)) + 0 = _
              omega
            show (fPred t).size + _ ≤ _
            rw [e]
            omega
          · rw [if_neg h3] at h; simp at h
theorem size_pos' (f : Fm) : 0 ≤ f.size := by
  refine Fm.ind (P := fun f => 0 ≤ f.size) (fun f ih => ?_) f
  have hk : ∀ l : List Fm, (∀ a ∈ l, 0 ≤ a.size) → 0 ≤ Fm.size.sizes l := by
    intro l
    induction l with
    | nil => intro _; rw [Fm.size.sizes]; decide
    | cons a r ihr => intro h; rw [Fm.size.sizes]; have h1 := h a (by simp); have h2 := ihr (fun b hb => h b (by simp [hb])); omega
  have h1 := hk f.kids ih
  have h2 := sum_pos.tsz f.l
  have h3 := sum_pos.tsz f.r
  cases f with
  | mk k n l r ks =>
    have h1' : 0 ≤ Fm.size.sizes ks := h1
    have h2' : 0 ≤ l.size := h2
    have h3' : 0 ≤ r.size := h3
    show 0 ≤ Fm.size (.mk k n l r ks)
    rw [Fm.size]
    split <;> omega
theorem size_two {k : Int} (hk : k ≠ 1) (f g : Fm) : (fOp k [f, g]).size = 1 + f.size + g.size := by rw [fOp_size hk, Fm.size.sizes, Fm.size.sizes, Fm.size.sizes]; omega
theorem size_one {k : Int} (hk : k ≠ 1) (f : Fm) : (fOp k [f]).size = 1 + f.size := by rw [fOp_size hk, Fm.size.sizes, Fm.size.sizes]; omega
theorem size_nil {k : Int} (hk : k ≠ 1) : (fOp k []).size = 1 := by rw [fOp_size hk, Fm.size.sizes]; omega
theorem pFm_gr : ∀ (n : Nat) (bd : List (List UInt8)) (m : Nat) (f0 : Fm) (l : List Tk) (f : Fm) (fr q : List Tk), pFm n bd m f0 l = some (.ok f fr q) → f.size + 3 * q.length ≤ 3 * l.length + (if 2 ≤ m then f0.size else 0)
  | 0, _, _, _, _, _, _, _, h => by cases h
  | n + 1, bd, 0, f0, l, f, fr, q, h => by
    rw [pFm] at h
    rw [if_neg (by omega)]
    by_cases h1 : headOf l = 1
    · rw [if_pos h1] at h
      have ht := tail_lt (l := l) (by omega)
      cases hy : pFm n bd 0 f00 l.tail with
      | none => rw [hy] at h; cases h
      | some y =>
        rw [hy] at h
        cases y with
        | no q => simp at h
        | ok g fr1 q1 =>
          have hl := pFm_gr n _ _ _ _ _ _ _ hy
          rw [if_neg (by omega)] at hl
          simp only [Option.some.injEq, Pr.ok.injEq] at h
          obtain ⟨rfl, _, rfl⟩ := h
          rw [size_one (by decide)]; omega
    · rw [if_neg h1] at h
      by_cases h2 : headOf l = 2 ∨ headOf l = 3
      · rw [if_pos h2] at h
        have ht := tail_lt (l := l) (by omega)
        by_cases h3 : isM [91] l.tail = true
        · rw [if_pos h3] at h
          have ht2 := tail_ltM h3
          cases hy : pVars n l.tail.tail with
          | none => rw [hy] at h; cases h
          | some y =>
            rw [hy] at h
            cases y with
            | no q => simp at h
            | ok vs fr1 q1 =>
              have hv := pVars_gr n _ _ _ _ hy
              simp only at h
              by_cases h4 : isM [93] q1 = true
              · rw [if_pos h4] at h
                have ht3 := tail_ltM h4
                by_cases h5 : isM [58] q1.tail = true
                · rw [if_pos h5] at h
                  have ht4 := tail_ltM h5
                  cases hz : pFm n (vs ++ bd) 0 f00 q1.tail.tail with
                  | none => rw [hz] at h; cases h
                  | some z =>
                    rw [hz] at h
                    cases z with
                    | no q' => simp at h
                    | ok g fr2 q2 =>
                      have hl2 := pFm_gr n _ _ _ _ _ _ _ hz
                      rw [if_neg (by omega)] at hl2
                      simp only [Option.some.injEq, Pr.ok.injEq] at h
                      obtain ⟨rfl, _, rfl⟩ := h
                      rw [wrapQ_size (by split <;> decide)]; omega
                · rw [if_neg h5] at h; simp at h
              · rw [if_neg h4] at h; simp at h
        · rw [if_neg h3] at h; simp at h
      · rw [if_neg h2] at h
        by_cases h3 : headOf l = 4
        · rw [if_pos h3] at h
          have ht := tail_lt (l := l) (by omega)
          simp only [Option.some.injEq, Pr.ok.injEq] at h
          obtain ⟨rfl, _, rfl⟩ := h
          rw [size_nil (by decide)]; omega
        · rw [if_neg h3] at h
          by_cases h4 : headOf l = 5
          · rw [if_pos h4] at h
            have ht := tail_lt (l := l) (by omega)
            simp only [Option.some.injEq, Pr.ok.injEq] at h
            obtain ⟨rfl, _, rfl⟩ := h
            rw [size_nil (by decide)]; omega
          · rw [if_neg h4] at h
            by_cases h5 : headOf l = 6
            · rw [if_pos h5] at h
              have ht := tail_lt (l := l) (by omega)
              cases hy : pFm n bd 1 f00 l.tail with
              | none => rw [hy] at h; cases h
              | some y =>
                rw [hy] at h
                cases y with
                | no q => simp at h
                | ok g fr1 q1 =>
                  have hl := pFm_gr n _ _ _ _ _ _ _ hy
                  rw [if_neg (by omega)] at hl
                  simp only at h
                  by_cases h6 : isM [41] q1 = true
                  · rw [if_pos h6] at h
                    have := tail_ltM h6
                    simp only [Option.some.injEq, Pr.ok.injEq] at h
                    obtain ⟨rfl, _, rfl⟩ := h
                    omega
                  · rw [if_neg h6] at h; simp at h
            · rw [if_neg h5] at h
              have := pAtom_gr h
              omega
  | n + 1, bd, 1, f0, l, f, fr, q, h => by
    rw [pFm] at h
    rw [if_neg (by omega)]
    cases hy : pFm n bd 0 f00 l with
    | none => rw [hy] at h; cases h
    | some y =>
      rw [hy] at h
      cases y with
      | no q => simp at h
      | ok g fr1 q1 =>
        have hl := pFm_gr n _ _ _ _ _ _ _ hy
        rw [if_neg (by omega)] at hl
        simp only at h
        by_cases h1 : joinOf q1 = 5 ∨ joinOf q1 = 6
        · rw [if_pos h1] at h
          have ht := tail_ltJ (l := q1) (by omega)
          cases hz : pFm n bd 0 f00 q1.tail with
          | none => rw [hz] at h; cases h
          | some z =>
            rw [hz] at h
            cases z with
            | no q' => simp at h
            | ok g2 fr2 q2 =>
              have hl2 := pFm_gr n _ _ _ _ _ _ _ hz
              rw [if_neg (by omega)] at hl2
              simp only [Option.some.injEq, Pr.ok.injEq] at h
              obtain ⟨rfl, _, rfl⟩ := h
              rw [size_two (by omega)]; omega
        · rw [if_neg h1] at h
          by_cases h2 : joinOf q1 = 3 ∨ joinOf q1 = 4
          · rw [if_pos h2] at h
            cases hz : pFm n bd (joinOf q1) g q1 with
            | none => rw [hz] at h; cases h
            | some z =>
              rw [hz] at h
              cases z with
              | no q' => simp at h
              | ok g2 fr2 q2 =>
                have hl2 := pFm_gr n _ _ _ _ _ _ _ hz
                rw [if_pos (by omega)] at hl2
                simp only [Option.some.injEq, Pr.ok.injEq] at h
                obtain ⟨rfl, _, rfl⟩ := h
                omega
          · rw [if_neg h2] at h
            simp only [Option.some.injEq, Pr.ok.injEq] at h
            obtain ⟨rfl, _, rfl⟩ := h
            omega
  | n + 1, bd, m + 2, f0, l, f, fr, q, h => by
    rw [pFm] at h
    rw [if_pos (by omega)]
    by_cases h1 : joinOf l = m + 2
    · rw [if_pos h1] at h
      have ht := tail_ltJ (l := l) (by omega)
      cases hy : pFm n bd 0 f00 l.tail with
      | none => rw [hy] at h; cases h
      | some y =>
        rw [hy] at h
        cases y with
        | no q => simp at h
        | ok g fr1 q1 =>
          have hl := pFm_gr n _ _ _ _ _ _ _ hy
          rw [if_neg (by omega)] at hl
          simp only at h
          cases hz : pFm n bd (m + 2) (fOp (m + 2 : Nat) [f0, g]) q1 with
          | none => rw [hz] at h; cases h
          | some z =>
            rw [hz] at h
            cases z with
            | no q' => simp at h
            | ok g2 fr2 q2 =>
              have hl2 := pFm_gr n _ _ _ _ _ _ _ hz
              rw [if_pos (by omega), size_two (by omega)] at hl2
              simp only [Option.some.injEq, Pr.ok.injEq] at h
              obtain ⟨rfl, _, rfl⟩ := h
              omega
    · rw [if_neg h1] at h
      simp only [Option.some.injEq, Pr.ok.injEq] at h
      obtain ⟨rfl, _, rfl⟩ := h
      omega
theorem tdepth_size (t : T) : t.depth ≤ t.size := by
  refine T.ind (P := fun t => t.depth ≤ t.size) (fun t ih => ?_) t
  rw [T.size_eq]
  have hs := sum_pos t.args
  have : ∀ a ∈ t.args, a.depth ≤ (t.args.map T.size).sum := fun a ha => by
    have h1 := ih a ha
    have h2 : ∀ l : List T, a ∈ l → a.size ≤ (l.map T.size).sum := by
      intro l
      induction l with
      | nil => intro h; cases h
      | cons b r ihr =>
        intro h
        rw [List.map_cons, List.sum_cons]
        rcases List.mem_cons.1 h with rfl | h
        · have := sum_pos r; omega
        · have := ihr h; have := sum_pos.tsz b; omega
    have := h2 _ ha
    omega
  have := depth_le hs this
  omega
theorem fdepth_size (f : Fm) : f.depth ≤ f.size := by
  refine Fm.ind (P := fun f => f.depth ≤ f.size) (fun f ih => ?_) f
  have hk : ∀ l : List Fm, (∀ a ∈ l, a.depth ≤ a.size) → Fm.depth.depths l ≤ Fm.size.sizes l ∧ 0 ≤ Fm.size.sizes l := by
    intro l
    induction l with
    | nil => intro _; rw [Fm.size.sizes, Fm.depth.depths]; decide
    | cons a r ihr =>
      intro h
      rw [Fm.size.sizes, Fm.depth.depths]
      have h1 := h a (by simp)
      have h2 := ihr (fun b hb => h b (by simp [hb]))
      have h3 := size_pos' a
      have h4 := depths_pos r
      have h5 := fdepth_pos a
      omega
  have h1 := hk f.kids ih
  have h2 := tdepth_size f.l
  have h3 := tdepth_size f.r
  have h4 := sum_pos.tsz f.l
  have h5 := sum_pos.tsz f.r
  cases f with
  | mk k n l r ks =>
    have h1' : Fm.depth.depths ks ≤ Fm.size.sizes ks ∧ 0 ≤ Fm.size.sizes ks := h1
    have h2' : l.depth ≤ l.size := h2
    have h3' : r.depth ≤ r.size := h3
    have h4' : 0 ≤ l.size := h4
    have h5' : 0 ≤ r.size := h5
    have h6 := depths_pos ks
    show Fm.depth (.mk k n l r ks) ≤ Fm.size (.mk k n l r ks)
    rw [Fm.size, Fm.depth]
    split <;> omega
section
variable {bd : List (List UInt8)} {l q : List Tk} {fr : List Tk} {f g : Fm}
theorem PT.single {us : List T} (h : PT bd l (.ok us fr q)) : ∃ t, us = [t] ∧ t.size + q.length ≤ l.length ∧ 3 * t.depth + q.length ≤ l.length + 2 := by obtain ⟨n, h⟩ := h; exact pTerm_one h
theorem PU.gr (h : PU bd l (.ok f fr q)) : f.size + 3 * q.length ≤ 3 * l.length := by obtain ⟨n, h⟩ := h; have := pFm_gr _ _ _ _ _ _ _ _ h; rw [if_neg (by omega)] at this; omega
end
end
section
open Go.RowKit
open Lx (Tk ofL)
/-- What reading a piece leaves. -/
def PieceP (E : Env) (w : World) (PX : Pr Fm → Prop) (bd : List (List UInt8)) (fr : List Tk) (fv c5 : Value) (e : Ending) (w' : World) : Prop :=
  (∃ f p fr' q kb' fv', PX (.ok f fr' q) ∧ e = .returned (.pointer (some ⟨p, 0, none⟩)) ∧ PcP (Good E w.heap.size fv') w' p f ∧ PSt E w' q bd (fr ++ fr') kb' fv' c5 ∧ Stay E w fv w' fv') ∨
  (∃ q fv', PX (.no q) ∧ e = .panicked misfit ∧ Bx w' E.B E.n E.n0 q (.map (some E.mb)) (.map (some E.mm)) fv' c5 ∧ Stay E w fv w' fv')
section
variable {E : Env} {X : World} {q : List Tk} {bd : List (List UInt8)} {fr : List Tk} {kb : Nat} {fv c5 : Value} {m : Nat}
theorem Good.new (h : PSt E X q bd fr kb fv c5) (hm : m ≤ X.heap.size) {j : Nat} (hj : X.heap.size ≤ j) : Good E m fv j := ⟨by omega, h.fresh hj⟩
theorem peq_any (h : PSt E X q bd fr kb fv c5) (hm : m ≤ X.heap.size) {l r : T} {sl sr : Value} (hl : ArgsP (Good E m fv) X sl l.args) (hr : ArgsP (Good E m fv) X sr r.args) (s1 : Short l) (s2 : Short r) (hb : l.size + r.size ≤ 4611686018427387903) :
    Calls Tryz.prog 200 #[tval l sl, tval r sr] X fun e w' => ∃ p, e = .returned (.pointer (some ⟨p, 0, none⟩)) ∧ PcP (Good E m fv) w' p (fEq l r) ∧ PSt E w' q bd fr kb fv c5 ∧ Stay E X fv w' fv := by
  refine (equation_any hl hr s1 s2 (by rw [fEq_size]; omega)).mono ?_
  rintro e w' ⟨p, he, hp, hz, hbl⟩
  exact ⟨p, he, ⟨⟨_, _, _, hz, ⟨hl.grow hbl, hr.grow hbl, KidsP.nil _ _⟩⟩, Good.new h hm hp⟩, h.keep hbl, Stay.of_below hbl⟩
/-- A piece with kids. -/
theorem pcomp_any (h : PSt E X q bd fr kb fv c5) (hm : m ≤ X.heap.size) {k : Int} (hk : k ≠ 1) {nm : ByteArray} {ps : List (Nat × Fm)} (hn : ps.length ≤ 2) {a : Option Addr} {c : Nat} (hc : ps.length ≤ c) (hcm : c ≤ maxLen) (hrow : ∀ i (h : i < ps.length), ∃ g, a = some ⟨g, 0, none⟩ ∧ X.cell? ⟨g, i, none⟩ = some (.pointer (some ⟨ps[i].1, 0, none⟩)))
    (hp : ∀ x ∈ ps, PcP (Good E m fv) X x.1 x.2) (hb : Fm.size.sizes (ps.map (·.2)) ≤ 4611686018427387903) :
    Calls Tryz.prog 30 #[.int .i64 k, .string nm, .slice a ps.length c] X fun e w' => ∃ p, e = .returned (.pointer (some ⟨p, 0, none⟩)) ∧ PcP (Good E m fv) w' p (.mk k nm t0 t0 (ps.map (·.2))) ∧ PSt E w' q bd fr kb fv c5 ∧ Stay E X fv w' fv := by
  have hD : ∃ D : List Pc, D.length = ps.length ∧ (∀ i (h : i < D.length) (h' : i < ps.length), D[i].p = ps[i].1) ∧ D.map Pc.f = ps.map (·.2) ∧ ∀ x ∈ D, X.heap[x.p]? = some (.cells (pcells x.f x.sl x.sr x.sk) 59 (0, 0)) ∧ FmP (Good E m fv) X x.f x.sl x.sr x.sk := by
    clear hrow hb hn hc
    induction ps with
    | nil => exact ⟨[], rfl, fun i h => absurd h (by simp), rfl, fun x hx => by cases hx⟩
    | cons x r ih =>
      obtain ⟨D, h1, h2, h3, h4⟩ := ih (fun y hy => hp y (by simp [hy]))
      obtain ⟨sl, sr, sk, hz, hf⟩ := (hp x (by simp)).at_
      refine ⟨⟨x.1, x.2, sl, sr, sk⟩ :: D, by simp [h1], fun i hi hi' => ?_, by simp [h3], fun y hy => ?_⟩
      · cases i with
        | zero => rfl
        | succ i => simpa using h2 i (by simpa using hi) (by simpa using hi')
      · rcases List.mem_cons.1 hy with rfl | hy
        · exact ⟨hz, hf⟩
        · exact h4 y hy
  obtain ⟨D, h1, h2, h3, h4⟩ := hD
  have hds : ∀ l : List Fm, Fm.depth.depths l ≤ Fm.size.sizes l := by
    intro l
    induction l with
    | nil => rw [Fm.depth.depths, Fm.size.sizes]; decide
    | cons a r ih => rw [Fm.depth.depths, Fm.size.sizes]; have := fdepth_size a; have := sizes_pos r; have := fsize_pos a; have := depths_pos r; omega
  have hdd := hds (ps.map (·.2))
  have key := compound_any (k := k) (nm := nm) (D := D) (a := a) (c := c) (w := X) (P := Good E m fv) hk (by omega) (by omega) hcm (fun i hi => by
    obtain ⟨g, hg, hcl⟩ := hrow i (by omega)
    exact ⟨g, hg, by rw [h2 i hi (by omega)]; exact hcl⟩) h4 (by rw [h3]; omega) (by rw [h3]; omega)
  rw [h1, h3] at key
  refine key.mono ?_
  rintro e w' ⟨he, hpc, hbl⟩
  exact ⟨_, he, hpc.keep (Nat.le_refl _) (fun j hj hl => ⟨hj.elim id (Good.new h hm), rfl⟩), h.keep hbl, Stay.of_below hbl⟩
theorem pcomp1 (h : PSt E X q bd fr kb fv c5) (hm : m ≤ X.heap.size) {k : Int} (hk : k ≠ 1) {nm : ByteArray} {p g : Nat} {f : Fm} (hrow : X.cell? ⟨g, 0, none⟩ = some (.pointer (some ⟨p, 0, none⟩))) (hp : PcP (Good E m fv) X p f) (hb : f.size ≤ 4611686018427387903) :
    Calls Tryz.prog 30 #[.int .i64 k, .string nm, .slice (some ⟨g, 0, none⟩) 1 1] X fun e w' => ∃ p, e = .returned (.pointer (some ⟨p, 0, none⟩)) ∧ PcP (Good E m fv) w' p (.mk k nm t0 t0 [f]) ∧ PSt E w' q bd fr kb fv c5 ∧ Stay E X fv w' fv := by
  have hr : ∀ i (h : i < [(p, f)].length), ∃ g', (some ⟨g, 0, none⟩ : Option Addr) = some ⟨g', 0, none⟩ ∧ X.cell? ⟨g', i, none⟩ = some (.pointer (some ⟨[(p, f)][i].1, 0, none⟩)) := by
    intro i hi
    have : i = 0 := by simp at hi; omega
    subst this
    exact ⟨g, rfl, hrow⟩
  exact pcomp_any (ps := [(p, f)]) (c := 1) h hm hk (by simp) (by simp) (by decide) hr (fun x hx => by simp at hx; subst hx; exact hp) (by show Fm.size.sizes [f] ≤ _; rw [Fm.size.sizes, Fm.size.sizes]; omega)
theorem pcomp2 (h : PSt E X q bd fr kb fv c5) (hm : m ≤ X.heap.size) {k : Int} (hk : k ≠ 1) {nm : ByteArray} {p p' g : Nat} {f f' : Fm} (hrow : X.cell? ⟨g, 0, none⟩ = some (.pointer (some ⟨p, 0, none⟩))) (hrow' : X.cell? ⟨g, 1, none⟩ = some (.pointer (some ⟨p', 0, none⟩))) (hp : PcP (Good E m fv) X p f) (hp' : PcP (Good E m fv) X p' f') (hb : f.size + f'.size ≤ 4611686018427387903) :
    Calls Tryz.prog 30 #[.int .i64 k, .string nm, .slice (some ⟨g, 0, none⟩) 2 2] X fun e w' => ∃ p, e = .returned (.pointer (some ⟨p, 0, none⟩)) ∧ PcP (Good E m fv) w' p (.mk k nm t0 t0 [f, f']) ∧ PSt E w' q bd fr kb fv c5 ∧ Stay E X fv w' fv := by
  have hr : ∀ i (h : i < [(p, f), (p', f')].length), ∃ g', (some ⟨g, 0, none⟩ : Option Addr) = some ⟨g', 0, none⟩ ∧ X.cell? ⟨g', i, none⟩ = some (.pointer (some ⟨[(p, f), (p', f')][i].1, 0, none⟩)) := by
    intro i hi
    have : i = 0 ∨ i = 1 := by simp at hi; omega
    rcases this with rfl | rfl
    · exact ⟨g, rfl, hrow⟩
    · exact ⟨g, rfl, hrow'⟩
  exact pcomp_any (ps := [(p, f), (p', f')]) (c := 2) h hm hk (by simp) (by simp) (by decide) hr (fun x hx => by
    simp at hx
    rcases hx with rfl | rfl
    · exact hp
    · exact hp') (by show Fm.size.sizes [f, f'] ≤ _; rw [Fm.size.sizes, Fm.size.sizes, Fm.size.sizes]; omega)
theorem pcomp0 (h : PSt E X q bd fr kb fv c5) (hm : m ≤ X.heap.size) {k : Int} (hk : k ≠ 1) {nm : ByteArray} :
    Calls Tryz.prog 30 #[.int .i64 k, .string nm, .slice none 0 0] X fun e w' => ∃ p, e = .returned (.pointer (some ⟨p, 0, none⟩)) ∧ PcP (Good E m fv) w' p (.mk k nm t0 t0 []) ∧ PSt E w' q bd fr kb fv c5 ∧ Stay E X fv w' fv :=
  pcomp_any (ps := []) h hm hk (by simp) (by simp) (by decide) (fun i hi => absurd hi (by simp)) (fun x hx => by cases hx) (by show Fm.size.sizes [] ≤ _; rw [Fm.size.sizes]; decide)
/-- A piece stays while more is read. -/
theorem Stay.pc {E : Env} {W W' : World} {fv fv' : Value} (h : Stay E W fv W' fv') {p : Nat} {f : Fm} {m : Nat} (ha : PcP (Good E m fv) W p f) : PcP (Good E m fv') W' p f :=
  ha.keep h.size fun k hk hl => ⟨⟨hk.1, (h.blk k hl hk.2).2⟩, (h.blk k hl hk.2).1⟩
theorem PcP.low {E : Env} {m m' : Nat} {fv : Value} {W : World} {p : Nat} {f : Fm} (hm : m ≤ m') (h : PcP (Good E m' fv) W p f) : PcP (Good E m fv) W p f :=
  h.keep (Nat.le_refl _) fun _ hk _ => ⟨⟨Nat.le_trans hm hk.1, hk.2⟩, rfl⟩
/-- Terms that were read are short. -/
theorem PT.short {bd : List (List UInt8)} {l q : List Tk} {fr : List Tk} {t : T} (h : PT bd l (.ok [t] fr q)) (hl : l.length ≤ 2097155) : Short t ∧ t.size ≤ 2097155 := by
  obtain ⟨t', ht, h1, h2⟩ := PT.single h
  cases ht
  exact ⟨short_of (by omega), by omega⟩
end
end
