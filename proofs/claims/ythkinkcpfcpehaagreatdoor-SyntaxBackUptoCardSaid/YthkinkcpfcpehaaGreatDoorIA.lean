import Derived.Test.YthkinkcpfcpehaaGreatDoorHK
namespace Go.Proofs.YthkinkcpfcpehaaGreatDoor
set_option maxRecDepth 100000
open Go.RowKit
open Lx (Tk ofL lexL addD rd hd wdB smB caB prB esB vrB nmB plB bnB qs escL esc shL wlen rdQ rdW rdD)
abbrev Pt := Int × List UInt8
def kts (L : List Tk) : List Pt := L.map fun t => (t.k, t.t)
/-- Here a word ends. -/
def Stp (r : List UInt8) : Prop := wdB (hd r) = false
/-- A text that is read as these tokens, whatever (of this manner) stands behind. -/
def LX (ok : List UInt8 → Prop) (s : List UInt8) (ts : List Pt) : Prop := ∀ a rest, ok rest → ∃ L, kts L = ts ∧ lexL a (s ++ rest) = addD L (lexL (a + s.length) rest)
abbrev Any (_ : List UInt8) : Prop := True
theorem LX.nil {ok : List UInt8 → Prop} : LX ok [] [] := fun a rest _ => ⟨[], rfl, by simp [addD]⟩
theorem LX.app {ok1 ok2 : List UInt8 → Prop} {s s' : List UInt8} {ts ts' : List Pt} (h : LX ok1 s ts) (h' : LX ok2 s' ts') (ho : ∀ rest, ok2 rest → ok1 (s' ++ rest)) : LX ok2 (s ++ s') (ts ++ ts') := by
  intro a rest hr
  obtain ⟨L, e, h1⟩ := h a (s' ++ rest) (ho rest hr)
  obtain ⟨L', e', h2⟩ := h' (a + s.length) rest hr
  refine ⟨L ++ L', by rw [← e, ← e']; simp [kts], ?_⟩
  rw [List.append_assoc, h1, h2, List.length_append, ← Nat.add_assoc]
  simp [addD]
theorem LX.blank {ok : List UInt8 → Prop} : LX ok [32] [] := fun a rest _ => ⟨[], rfl, by
  show lexL a (32 :: rest) = _
  rw [Lx.lexL_blank (.inl rfl)]; simp [addD]⟩
theorem LX.tok {ok : List UInt8 → Prop} {s : List UInt8} {k : Int} {t : List UInt8} (hne : s ≠ []) (hh : hd s ≠ 32 ∧ hd s ≠ 9 ∧ hd s ≠ 13 ∧ hd s ≠ 37) (h : ∀ rest, ok rest → rd (s ++ rest) = ⟨k, t, s.length, 0⟩) : LX ok s [(k, t)] := by
  intro a rest hr
  have hrd := h rest hr
  cases s with
  | nil => exact absurd rfl hne
  | cons c r =>
    have hcv : ∀ m : UInt8, c = m → hd (c :: r) = (m.toNat : Int) := fun m e => by rw [e]; rfl
    have hb : ¬ (c = 32 ∨ c = 9 ∨ c = 13) := fun h => by
      rcases h with h | h | h
      · exact hh.1 (hcv 32 h)
      · exact hh.2.1 (hcv 9 h)
      · exact hh.2.2.1 (hcv 13 h)
    have h37 : c ≠ 37 := fun h => hh.2.2.2 (hcv 37 h)
    rw [List.cons_append] at hrd ⊢
    have e := Lx.lexL_tok (a := a) hb h37 (by rw [hrd]) []
    refine ⟨[⟨k, a, t⟩], rfl, ?_⟩
    rw [hrd] at e
    have e3 : (c :: (r ++ rest)).drop (c :: r).length = rest := by simp
    simp only [e3, List.nil_append] at e
    have e2 : lexL a (c :: (r ++ rest)) = addD [] (lexL a (c :: (r ++ rest))) := by simp [addD]
    rw [e2, e]
theorem hd_app {s : List UInt8} (r : List UInt8) (h : s ≠ []) : hd (s ++ r) = hd s := by
  cases s with
  | nil => exact absurd rfl h
  | cons c s => rfl
theorem wlen_stop {r : List UInt8} (h : Stp r) : wlen r = 0 := by
  cases r with
  | nil => rfl
  | cons c r => exact Lx.wlen_no h
theorem wlen_app : ∀ {n r : List UInt8}, wlen n = n.length → Stp r → wlen (n ++ r) = n.length
  | [], r, _, hr => wlen_stop hr
  | c :: n, r, h, hr => by
    cases hc : wdB c.toNat
    · rw [Lx.wlen_no hc] at h; simp at h
    · rw [Lx.wlen_yes hc] at h
      rw [List.cons_append, Lx.wlen_yes hc, wlen_app (by simpa using h) hr, List.length_cons]
theorem qs_esc_app : ∀ (n rest : List UInt8), (∀ c ∈ n, prB c.toNat = true) → qs (escL n ++ 39 :: rest) = some (n, (escL n).length + 1)
  | [], rest, _ => by
    show qs (39 :: rest) = _
    rw [Lx.qs_end]; rfl
  | c :: n, rest, h => by
    have hc := h c (by simp)
    have ih := qs_esc_app n rest (fun d hd => h d (by simp [hd]))
    rw [Lx.escL_cons]
    unfold esc
    cases he : esB c.toNat
    · have h1 : c ≠ 39 := fun e => by rw [e] at he; exact absurd he (by decide)
      have h2 : c ≠ 92 := fun e => by rw [e] at he; exact absurd he (by decide)
      simp only [Bool.false_eq_true, if_false, List.cons_append, List.nil_append]
      rw [Lx.qs_one _ h1 hc h2, ih]
      simp
    · simp only [if_true, List.cons_append, List.nil_append]
      rw [Lx.qs_esc _ he, ih]
      simp
/-- A name. -/
theorem LX.name {n : List UInt8} (h : nmB n = true) : LX Stp (shL n) [(1, n)] := by
  unfold nmB at h
  simp only [Bool.and_eq_true, decide_eq_true_eq] at h
  obtain ⟨⟨hb, hl⟩, hp⟩ := h
  have hpr : ∀ c ∈ n, prB c.toNat = true := fun c hc => by
    have := List.all_eq_true.1 hp c hc
    exact this
  have hne : n ≠ [] := fun e => by rw [e] at hb; exact absurd hb (by decide)
  unfold shL
  cases hpl : plB n
  · simp only [Bool.false_eq_true, if_false]
    have hh : hd (39 :: (escL n ++ [39])) = 39 := rfl
    refine LX.tok (by simp) (by rw [hh]; decide) (fun rest _ => ?_)
    have hh2 : hd (39 :: (escL n ++ [39]) ++ rest) = 39 := rfl
    unfold rd
    rw [hh2, if_neg (by decide), if_neg (by decide), if_pos rfl]
    show rdQ (escL n ++ [39] ++ rest) = _
    rw [List.append_assoc]
    show rdQ (escL n ++ 39 :: rest) = _
    unfold rdQ
    rw [qs_esc_app n rest hpr]
    simp only [hb, if_true]
    rw [if_neg (by omega)]
    simp
  · simp only [if_true]
    unfold plB at hpl
    simp only [Bool.and_eq_true] at hpl
    obtain ⟨⟨_, hs⟩, hw⟩ := hpl
    have hw' : wlen n = n.length := by have := eq_of_beq hw; omega
    have hs2 := hs
    unfold smB at hs2
    simp at hs2
    refine LX.tok hne (by omega) (fun rest hr => ?_)
    unfold rd
    rw [hd_app rest hne, hs, if_pos rfl]
    unfold rdW
    rw [wlen_app hw' hr, if_neg (by omega), List.take_left]
/-- A variable. -/
theorem LX.var {n : List UInt8} (h : vrB n = true) : LX Stp n [(2, n)] := by
  unfold vrB at h
  simp only [Bool.and_eq_true, decide_eq_true_eq] at h
  obtain ⟨⟨⟨he, hl⟩, hc⟩, hw⟩ := h
  have hne : n ≠ [] := fun e => by rw [e] at he; exact absurd he (by decide)
  have hw' : wlen n = n.length := by have := eq_of_beq hw; omega
  have hc2 := hc
  unfold caB at hc2
  simp at hc2
  have hs : smB (hd n) = false := by unfold smB; simp; omega
  refine LX.tok hne (by omega) (fun rest hr => ?_)
  unfold rd
  rw [hd_app rest hne, hs, if_neg (by decide), hc, if_pos rfl]
  unfold rdW
  rw [wlen_app hw' hr, if_neg (by omega), List.take_left]
theorem LX.yes : LX Stp Lx.dTrue [(3, Lx.dTrue)] := by
  refine LX.tok (by decide) (by decide) (fun rest hr => ?_)
  show rdD (Lx.dTrue ++ rest) = _
  unfold rdD
  have e : wlen ((Lx.dTrue ++ rest).drop 1) = 4 := wlen_app (n := [116, 114, 117, 101]) (by decide) hr
  rw [e]
  rfl
theorem LX.nope : LX Stp Lx.dFalse [(3, Lx.dFalse)] := by
  refine LX.tok (by decide) (by decide) (fun rest hr => ?_)
  show rdD (Lx.dFalse ++ rest) = _
  unfold rdD
  have e : wlen ((Lx.dFalse ++ rest).drop 1) = 5 := wlen_app (n := [102, 97, 108, 115, 101]) (by decide) hr
  rw [e]
  rfl
/-- A mark behind which nothing counts. -/
theorem LX.mark {m : List UInt8} (hne : m ≠ []) (hh : hd m ≠ 32 ∧ hd m ≠ 9 ∧ hd m ≠ 13 ∧ hd m ≠ 37) (h : ∀ rest, rd (m ++ rest) = ⟨4, m, m.length, 0⟩) {ok : List UInt8 → Prop} : LX ok m [(4, m)] := LX.tok hne hh fun rest _ => h rest
theorem LX.m40 {ok : List UInt8 → Prop} : LX ok [40] [(4, [40])] := LX.mark (by decide) (by decide) fun _ => rfl
theorem LX.m41 {ok : List UInt8 → Prop} : LX ok [41] [(4, [41])] := LX.mark (by decide) (by decide) fun _ => rfl
theorem LX.m44 {ok : List UInt8 → Prop} : LX ok [44] [(4, [44])] := LX.mark (by decide) (by decide) fun _ => rfl
/-- A mark with a blank behind it. -/
theorem LX.markb {m : List UInt8} (hne : m ≠ []) (hh : hd m ≠ 32 ∧ hd m ≠ 9 ∧ hd m ≠ 13 ∧ hd m ≠ 37) (h : ∀ rest, rd (m ++ 32 :: rest) = ⟨4, m, m.length, 0⟩) {ok : List UInt8 → Prop} : LX ok (m ++ [32]) [(4, m)] := by
  have h1 : LX (fun r => ∃ q, r = 32 :: q) m [(4, m)] := LX.tok hne hh (fun rest hr => by obtain ⟨q, rfl⟩ := hr; exact h q)
  have h2 := h1.app (LX.blank (ok := ok)) (fun rest _ => ⟨rest, rfl⟩)
  simpa using h2
/-- A sign between blanks. -/
theorem LX.sign {m : List UInt8} (hne : m ≠ []) (hh : hd m ≠ 32 ∧ hd m ≠ 9 ∧ hd m ≠ 13 ∧ hd m ≠ 37) (h : ∀ rest, rd (m ++ 32 :: rest) = ⟨4, m, m.length, 0⟩) {ok : List UInt8 → Prop} : LX ok ([32] ++ m ++ [32]) [(4, m)] := by
  have h2 := (LX.blank (ok := Any)).app (LX.markb hne hh h (ok := ok)) (fun _ _ => trivial)
  simpa using h2
theorem stp_of {c : UInt8} {r : List UInt8} (h : wdB c.toNat = false) : Stp (c :: r) := h
/-- The tokens of a term. -/
def tkT : T → List Pt
  | .mk v fn ts => if vB (.mk v fn ts) = true then [(2, fn.data.toList)] else (1, fn.data.toList) :: (if ts.length = 0 then [] else tkTs ts 40 ++ [(4, [41])])
where tkTs : List T → UInt8 → List Pt
  | [], _ => []
  | a :: r, c => (4, [c]) :: (tkT a ++ tkTs r 44)
theorem tkT_eq (t : T) : tkT t = if vB t = true then [(2, t.fn.data.toList)] else (1, t.fn.data.toList) :: (if t.args.length = 0 then [] else tkT.tkTs t.args 40 ++ [(4, [41])]) := by cases t; rw [tkT]; rfl
theorem lx_term (t : T) : trB t = true → LX Stp (shT t) (tkT t) := by
  refine T.ind (P := fun t => trB t = true → LX Stp (shT t) (tkT t)) (fun t ih => ?_) t
  intro h
  rw [trB_eq] at h
  simp only [Bool.and_eq_true, Bool.or_eq_true, decide_eq_true_eq] at h
  rw [shT_eq, tkT_eq]
  by_cases hv : vB t = true
  · rw [if_pos hv, if_pos hv]
    unfold vB at hv
    rw [Bool.and_eq_true] at hv
    exact LX.var hv.2
  · rw [if_neg hv, if_neg hv]
    obtain ⟨hn, ha⟩ := h.2.resolve_left hv
    have key : ∀ (l : List T), (∀ a ∈ l, a ∈ t.args) → ∀ c : UInt8, c = 40 ∨ c = 44 → LX Stp (shT.shTs l c) (tkT.tkTs l c) := by
      intro l
      induction l with
      | nil => intro _ c _; exact LX.nil
      | cons a r ihl =>
        intro hm c hc
        rw [shT.shTs, tkT.tkTs]
        have h1 : LX Any [c] [(4, [c])] := by
          rcases hc with rfl | rfl
          · exact LX.m40
          · exact LX.m44
        have h2 := ih a (hm a (by simp)) (List.all_eq_true.1 ha a (hm a (by simp)))
        have h3 := ihl (fun b hb => hm b (by simp [hb])) 44 (.inr rfl)
        have h4 := h2.app h3 (fun rest hr => by
          cases r with
          | nil => rw [shT.shTs]; exact hr
          | cons b r => rw [shT.shTs]; exact stp_of (by decide))
        exact h1.app h4 (fun _ _ => trivial)
    have h1 := LX.name hn
    by_cases h0 : t.args.length = 0
    · rw [if_pos h0, if_pos h0, List.append_nil]
      exact h1
    · rw [if_neg h0, if_neg h0]
      have h2 := key t.args (fun _ h => h) 40 (.inl rfl)
      have h3 := h2.app (LX.m41 (ok := Stp)) (fun rest _ => stp_of (by decide))
      exact h1.app h3 (fun rest _ => by
        cases hx : t.args with
        | nil => rw [hx] at h0; exact absurd rfl h0
        | cons a r => rw [shT.shTs]; exact stp_of (by decide))
/-- The tokens of an atom. -/
def tkA (f : Fm) (m : List UInt8) : List Pt := if pB f = true then tkT (predT f) else tkT f.l ++ ((4, m) :: tkT f.r)
/-- What an atom is. -/
theorem atom_form {f : Fm} (hk : f.k = 1) (h : shB f = true) : f = .mk 1 e0 f.l f.r [] ∧ ((pB f = true ∧ trB (predT f) = true ∧ vB (predT f) = false ∧ f.l = .mk 0 (⟨#[64]⟩ ++ (predT f).fn) (predT f).args ∧ f.r = trueT) ∨ (pB f = false ∧ trB f.l = true ∧ trB f.r = true)) := by
  have h0 := kids_count h
  rw [shB_eq] at h
  simp only [Bool.and_eq_true, decide_eq_true_eq] at h
  obtain ⟨h1, h2, h3, -⟩ := h
  have hks : f.kids = [] := by
    rw [hk] at h1
    have : ((f.kids.length : Int)) = 0 := h1
    exact List.eq_nil_of_length_eq_zero (by omega)
  have hnm : f.nm = e0 := by
    unfold nameB at h2
    rw [if_neg (by unfold qB; rw [hk]; decide)] at h2
    exact of_decide_eq_true h2
  refine ⟨by conv => lhs; rw [f.eta, hk, hnm, hks], ?_⟩
  unfold termsB at h3
  rw [if_pos hk] at h3
  by_cases hp : pB f = true
  · left
    rw [if_pos hp] at h3
    simp only [Bool.and_eq_true, decide_eq_true_eq] at h3
    obtain ⟨e1, e2, e3, e4⟩ := h3
    have hex : (f.l.fn.extract 1 f.l.fn.size).data.toList = f.l.fn.data.toList.drop 1 := by rw [Lx.extract_drop]; rfl
    have hnb : nmB (predT f).fn.data.toList = true := by show nmB (f.l.fn.extract 1 f.l.fn.size).data.toList = true; rw [hex]; exact e2
    have hvb : vB (predT f) = false := by
      unfold vB
      cases hv : vrB (predT f).fn.data.toList
      · simp
      · exfalso
        unfold vrB at hv
        unfold nmB bnB at hnb
        simp only [Bool.and_eq_true, Bool.not_eq_true'] at hv hnb
        rw [hnb.1.1.1.1.2] at hv
        exact absurd hv.1.2 (by decide)
    refine ⟨hp, ?_, hvb, ?_, same_iff.1 e4⟩
    · rw [trB_eq]
      simp only [Bool.and_eq_true, Bool.or_eq_true, decide_eq_true_eq]
      exact ⟨rfl, .inr ⟨hnb, e3⟩⟩
    · have hfn : f.l.fn = ⟨#[64]⟩ ++ (predT f).fn := by
        have hpre : Lib.hasPrefix f.l.fn.data.toList [64] = true := hp
        show f.l.fn = ⟨#[64]⟩ ++ f.l.fn.extract 1 f.l.fn.size
        have e5 : f.l.fn.data.toList = 64 :: f.l.fn.data.toList.drop 1 := by
          cases hl : f.l.fn.data.toList with
          | nil => rw [hl] at hpre; exact absurd hpre (by decide)
          | cons c r =>
            rw [hl] at hpre
            have : (64 == c && true) = true := hpre
            simp only [Bool.and_true] at this
            rw [← eq_of_beq this]; rfl
        have e6 : (⟨#[64]⟩ ++ f.l.fn.extract 1 f.l.fn.size : ByteArray).data.toList = 64 :: f.l.fn.data.toList.drop 1 := by
          rw [← hex]; simp [ByteArray.data_append]
        rw [Lx.ofL_of e6, ← e5, Lx.ofL_self]
      conv => lhs; rw [f.l.eta, e1, hfn]
      rfl
  · right
    rw [if_neg hp, Bool.and_eq_true] at h3
    exact ⟨by simpa using hp, h3.1, h3.2⟩
theorem lx_atom {f : Fm} (hk : f.k = 1) (h : shB f = true) (sg : ByteArray) (hne : sg.data.toList ≠ []) (hh : hd sg.data.toList ≠ 32 ∧ hd sg.data.toList ≠ 9 ∧ hd sg.data.toList ≠ 13 ∧ hd sg.data.toList ≠ 37) (hr : ∀ rest, rd (sg.data.toList ++ 32 :: rest) = ⟨4, sg.data.toList, sg.data.toList.length, 0⟩) : LX Stp (shA f sg) (tkA f sg.data.toList) := by
  obtain ⟨-, h⟩ := atom_form hk h
  unfold shA tkA
  rcases h with ⟨hp, ht, -, -, -⟩ | ⟨hp, hl, hrr⟩
  · rw [if_pos hp, if_pos hp]
    exact lx_term _ ht
  · rw [if_neg (by rw [hp]; decide), if_neg (by rw [hp]; decide)]
    have h1 := (lx_term _ hl).app (LX.sign hne hh hr (ok := Any)) (fun rest _ => stp_of (by decide))
    have h2 := h1.app (lx_term _ hrr) (fun _ _ => trivial)
    simpa using h2
/-- The tokens of a formula, by its kids' tokens. -/
def tkJ (f : Fm) (ts : List (List Pt)) : List Pt :=
  if f.k = 1 then tkA f [61] else if f.k = 2 then (match f.kids with | [] => [] | a :: _ => if a.k = 1 ∧ pB a = false then tkA a [33, 61] else (4, [126]) :: ts.headD []) else if f.k = 7 ∨ f.k = 8 then (4, (sgn f.k).data.toList) :: (4, [91]) :: (2, f.nm.data.toList) :: (4, [93]) :: (4, [58]) :: ts.headD [] else if f.k = 9 ∨ f.k = 10 then [(3, (sgn f.k).data.toList)] else (4, [40]) :: (ts.headD [] ++ ((4, (sgn f.k).data.toList) :: ((ts.drop 1).headD [] ++ [(4, [41])])))
def tkF : Fm → List Pt
  | .mk k n l r ks => tkJ (.mk k n l r ks) (tks ks)
where tks : List Fm → List (List Pt)
  | [] => []
  | a :: r => tkF a :: tks r
theorem tks_map (l : List Fm) : tkF.tks l = l.map tkF := by
  induction l with
  | nil => rfl
  | cons a r ih => rw [tkF.tks, ih]; rfl
theorem tkF_eq (f : Fm) : tkF f = tkJ f (f.kids.map tkF) := by cases f; rw [← tks_map, tkF]; rfl
theorem kids_one' {f : Fm} (h : (f.kids.length : Int) = 1) : ∃ a, f.kids = [a] := by
  match hk : f.kids with
  | [a] => exact ⟨a, rfl⟩
  | [] => rw [hk] at h; exact absurd h (by decide)
  | _ :: _ :: _ => rw [hk] at h; simp only [List.length_cons] at h; omega
theorem kids_two' {f : Fm} (h : (f.kids.length : Int) = 2) : ∃ a b, f.kids = [a, b] := by
  match hk : f.kids with
  | [a, b] => exact ⟨a, b, rfl⟩
  | [] => rw [hk] at h; exact absurd h (by decide)
  | [_] => rw [hk] at h; simp only [List.length_cons, List.length_nil] at h; omega
  | _ :: _ :: _ :: _ => rw [hk] at h; simp only [List.length_cons] at h; omega
theorem lx_formula (f : Fm) : shB f = true → LX Stp (shF f) (tkF f) := by
  refine Fm.ind (P := fun f => shB f = true → LX Stp (shF f) (tkF f)) (fun f ih => ?_) f
  intro h
  obtain ⟨hn, hk⟩ := kids_count h
  rw [shF_eq, tkF_eq]
  unfold shJ tkJ
  have hkd := kind_of hn
  by_cases k1 : f.k = 1
  · rw [if_pos k1, if_pos k1]
    exact lx_atom k1 h _ (by decide) (by decide) fun _ => rfl
  rw [if_neg k1, if_neg k1]
  by_cases k2 : f.k = 2
  · rw [if_pos k2, if_pos k2]
    rw [k2] at hn
    obtain ⟨a, ha⟩ := kids_one' hn
    have hka := hk a (by rw [ha]; simp)
    have iha := ih a (by rw [ha]; simp) hka
    rw [ha]
    show LX Stp (shNg a (shF a)) (if a.k = 1 ∧ pB a = false then tkA a [33, 61] else (4, [126]) :: tkF a)
    unfold shNg
    by_cases hc : a.k = 1 ∧ pB a = false
    · rw [if_pos hc, if_pos hc]
      exact lx_atom hc.1 hka _ (by decide) (by decide) fun _ => rfl
    · rw [if_neg hc, if_neg hc]
      exact (LX.markb (m := [126]) (by decide) (by decide) (fun _ => rfl) (ok := Any)).app iha (fun _ _ => trivial)
  rw [if_neg k2, if_neg k2]
  by_cases k7 : f.k = 7 ∨ f.k = 8
  · rw [if_pos k7, if_pos k7]
    have hn1 : (f.kids.length : Int) = 1 := by rw [hn]; rcases k7 with e | e <;> rw [e] <;> decide
    obtain ⟨a, ha⟩ := kids_one' hn1
    have iha := ih a (by rw [ha]; simp) (hk a (by rw [ha]; simp))
    have hnb : vrB f.nm.data.toList = true := by
      rw [shB_eq] at h
      simp only [Bool.and_eq_true] at h
      have h2 := h.2.1
      unfold nameB at h2
      rw [if_pos (by unfold qB; simpa using k7)] at h2
      exact h2
    have h1 : LX Any ((sgn f.k).data.toList ++ [32, 91]) [(4, (sgn f.k).data.toList), (4, [91])] := by
      have h0 : ∀ m : List UInt8, m ≠ [] → (hd m ≠ 32 ∧ hd m ≠ 9 ∧ hd m ≠ 13 ∧ hd m ≠ 37) → (∀ rest, rd (m ++ 32 :: rest) = ⟨4, m, m.length, 0⟩) → LX Any (m ++ [32, 91]) [(4, m), (4, [91])] := fun m a b c => by
        have := (LX.markb a b c (ok := Any)).app (LX.mark (m := [91]) (by decide) (by decide) (fun _ => rfl) (ok := Any)) (fun _ _ => trivial)
        simpa using this
      rcases k7 with e | e <;> rw [e] <;> exact h0 _ (by decide) (by decide) fun _ => rfl
    have h2 : LX Any [93, 32, 58, 32] [(4, [93]), (4, [58])] := (LX.markb (m := [93]) (by decide) (by decide) (fun _ => rfl) (ok := Any)).app (LX.markb (m := [58]) (by decide) (by decide) (fun _ => rfl) (ok := Any)) (fun _ _ => trivial)
    have h3 := (h1.app (LX.var hnb) (fun _ _ => trivial)).app h2 (fun _ _ => stp_of (by decide))
    have h4 := h3.app iha (fun _ _ => trivial)
    rw [ha]
    simpa using h4
  rw [if_neg k7, if_neg k7]
  by_cases k9 : f.k = 9 ∨ f.k = 10
  · rw [if_pos k9, if_pos k9]
    rcases k9 with e | e
    · rw [e]; exact LX.yes
    · rw [e]; exact LX.nope
  rw [if_neg k9, if_neg k9]
  have k3 : f.k = 3 ∨ f.k = 4 ∨ f.k = 5 ∨ f.k = 6 := by omega
  have hn2 : (f.kids.length : Int) = 2 := by rw [hn]; rcases k3 with e | e | e | e <;> rw [e] <;> decide
  obtain ⟨a, b, ha⟩ := kids_two' hn2
  have iha := ih a (by rw [ha]; simp) (hk a (by rw [ha]; simp))
  have ihb := ih b (by rw [ha]; simp) (hk b (by rw [ha]; simp))
  have h1 : LX Any ([32] ++ (sgn f.k).data.toList ++ [32]) [(4, (sgn f.k).data.toList)] := by
    rcases k3 with e | e | e | e <;> rw [e] <;> exact LX.sign (by decide) (by decide) fun _ => rfl
  have h2 := (LX.m40 (ok := Any)).app iha (fun _ _ => trivial)
  have h3 := h2.app h1 (fun _ _ => stp_of (by decide))
  have h4 := h3.app ihb (fun _ _ => trivial)
  have h5 := h4.app (LX.m41 (ok := Stp)) (fun _ _ => stp_of (by decide))
  rw [ha]
  simpa using h5
