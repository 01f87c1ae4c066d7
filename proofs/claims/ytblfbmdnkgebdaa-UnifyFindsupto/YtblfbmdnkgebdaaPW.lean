import Derived.Test.YtblfbmdnkgebdaaPC
import Derived.Test.YtblfbmdnkgebdaaPF
import Derived.Test.YtblfbmdnkgebdaaTM
import Derived.Deep.RegionHeld3
import Derived.Deep.QuietTactic
import Derived.BigQuiet
import Derived.Test.YtblfbmdnkgebdaaPR

/-
  The document's match.
-/
namespace Go.Proofs.Ytblfbmdnkgebdaa
open Go.RowKit Go.Maps

/-- What stands for a variable in a list of binds. -/
def findB (s : List Bd) (v : Int) : Option T := (s.find? fun x => decide (x.1 = v)).map (·.2)

/-- The document's match. -/
noncomputable def dmt : T → T → List Bd → Option (List Bd)
  | .mk v fn args, t, s =>
    if fn.size = 0 then
      (match findB s v with
       | some t' => if same t' t = true then some s else none
       | none => some (withL s (v, t)))
    else if fn = t.fn ∧ args.length = t.args.length then dms args t.args s else none
where dms : List T → List T → List Bd → Option (List Bd)
  | a :: r, b :: q, s => (dmt a b s).bind (dms r q)
  | _, _, s => some s

theorem dmt_var {p t : T} {s : List Bd} (h : uvar p = true) : dmt p t s = (match findB s p.v with
       | some t' => if same t' t = true then some s else none
       | none => some (withL s (p.v, t))) := by
  cases p with
  | mk v fn args =>
    have h0 : fn.size = 0 := by simpa [uvar, T.fn] using h
    rw [dmt, if_pos h0]
    rfl
theorem dmt_fn {p t : T} {s : List Bd} (h : uvar p = false) (hf : p.fn = t.fn) (hl : p.args.length = t.args.length) : dmt p t s = dmt.dms p.args t.args s := by
  cases p with
  | mk v fn args =>
    have h0 : fn.size ≠ 0 := by simpa [uvar, T.fn] using h
    rw [dmt, if_neg h0, if_pos ⟨hf, hl⟩]
    rfl
theorem dmt_no {p t : T} {s : List Bd} (h : uvar p = false) (hf : p.fn ≠ t.fn ∨ p.args.length ≠ t.args.length) : dmt p t s = none := by
  cases p with
  | mk v fn args =>
    have h0 : fn.size ≠ 0 := by simpa [uvar, T.fn] using h
    rw [dmt, if_neg h0, if_neg]
    rintro ⟨h1, h2⟩
    rcases hf with e | e
    · exact e h1
    · exact e h2

theorem dms_nil (m : List T) (s : List Bd) : dmt.dms [] m s = some s := by cases m <;> rw [dmt.dms] <;> simp
theorem dms_cons (a b : T) (l m : List T) (s : List Bd) : dmt.dms (a :: l) (b :: m) s = (dmt a b s).bind (dmt.dms l m) := by rw [dmt.dms]

theorem dms_append : ∀ (a b c d : List T), a.length = b.length → ∀ s, dmt.dms (a ++ c) (b ++ d) s = (dmt.dms a b s).bind (dmt.dms c d)
  | [], [], c, d, _, s => by rw [dms_nil]; rfl
  | x :: a, y :: b, c, d, h, s => by
    rw [List.cons_append, List.cons_append, dms_cons, dms_cons]
    cases e : dmt x y s with
    | none => rfl
    | some s1 => exact dms_append a b c d (by simpa using h) s1
  | [], y :: b, c, d, h, s => by simp at h
  | x :: a, [], c, d, h, s => by simp at h

/-- One more of them. -/
theorem dms_step {l m : List T} {k : Nat} (hl : l.length = m.length) (hk : k < l.length) (s : List Bd) : dmt.dms (l.take (k + 1)) (m.take (k + 1)) s = (dmt.dms (l.take k) (m.take k) s).bind (dmt l[k] m[k]) := by
  rw [List.take_succ_eq_append_getElem hk, List.take_succ_eq_append_getElem (hl ▸ hk), dms_append _ _ _ _ (by simp [hl])]
  congr 1
  funext s1
  rw [dms_cons]
  cases dmt l[k] m[k] s1 with
  | none => rfl
  | some s2 => simp [dms_nil]
theorem dms_stop {l m : List T} {k : Nat} (hl : l.length = m.length) {s : List Bd} (h : dmt.dms (l.take k) (m.take k) s = none) : dmt.dms l m s = none := by
  have h1 := dms_append (l.take k) (m.take k) (l.drop k) (m.drop k) (by simp [hl]) s
  rw [List.take_append_drop, List.take_append_drop, h] at h1
  exact h1

theorem withL_len (s : List Bd) (x : Bd) : (withL s x).length = s.length + 1 := by
  have := (withL_perm s x).length_eq
  simpa using this

/-- How long it becomes. -/
theorem dmt_len (p : T) : ∀ (t : T) (s s' : List Bd), dmt p t s = some s' → s'.length ≤ s.length + p.nn := by
  induction p using T.ind with
  | _ p ih =>
    intro t s s' h
    have hp := p.nn_pos
    by_cases hv : uvar p = true
    · rw [dmt_var hv] at h
      cases e : findB s p.v with
      | none =>
        rw [e] at h
        simp only [Option.some.injEq] at h
        rw [← h, withL_len]
        omega
      | some t' =>
        rw [e] at h
        simp only at h
        by_cases e2 : same t' t = true
        · rw [if_pos e2] at h
          cases h
          omega
        · rw [if_neg e2] at h
          cases h
    · have hv' : uvar p = false := by simpa using hv
      by_cases hf : p.fn = t.fn ∧ p.args.length = t.args.length
      · rw [dmt_fn hv' hf.1 hf.2] at h
        have key : ∀ (l m : List T) (s s' : List Bd), (∀ a ∈ l, a ∈ p.args) → dmt.dms l m s = some s' → s'.length ≤ s.length + (l.map T.nn).sum := by
          intro l
          induction l with
          | nil =>
            intro m s s' _ h
            rw [dms_nil] at h
            cases h
            simp
          | cons a l ihl =>
            intro m s s' hm h
            cases m with
            | nil => rw [dmt.dms] at h <;> simp_all
            | cons b m =>
              rw [dms_cons] at h
              obtain ⟨s1, h1, h2⟩ := Option.bind_eq_some_iff.1 h
              have h3 := ih a (hm a List.mem_cons_self) b s s1 h1
              have h4 := ihl m s1 s' (fun x hx => hm x (List.mem_cons_of_mem _ hx)) h2
              rw [List.map_cons, List.sum_cons]
              omega
        have := key p.args t.args s s' (fun a h => h) h
        rw [T.nn_eq p]
        omega
      · rw [dmt_no hv' (Decidable.or_iff_not_not_and_not.2 fun h => hf ⟨Classical.not_not.1 h.1, Classical.not_not.1 h.2⟩)] at h
        cases h

theorem find_take {s : List Bd} {v : Int} {i : Nat} (hi : i < s.length) (h : ∀ x ∈ s.take i, x.1 ≠ v) (e : s[i].1 = v) : findB s v = some s[i].2 := by
  unfold findB
  have h1 : s = s.take i ++ s[i] :: s.drop (i + 1) := by rw [← List.drop_eq_getElem_cons hi, List.take_append_drop]
  have h2 : (s.take i).find? (fun x => decide (x.1 = v)) = none := by
    rw [List.find?_eq_none]
    intro x hx
    simpa using h x hx
  have h3 : s.find? (fun x => decide (x.1 = v)) = some s[i] := by
    conv => lhs; rw [h1]
    rw [List.find?_append, h2, List.find?_cons_of_pos (by simpa using e)]
    rfl
  rw [h3]
  rfl
theorem find_none {s : List Bd} {v : Int} (h : ∀ x ∈ s, x.1 ≠ v) : findB s v = none := by
  unfold findB
  have h2 : s.find? (fun x => decide (x.1 = v)) = none := by
    rw [List.find?_eq_none]
    intro x hx
    simpa using h x hx
  rw [h2]
  rfl

/-- What it answers. -/
def DmIs (w : World) (r : Option (List Bd)) (e : Ending) (W : World) : Prop :=
  Below w.heap.size w W ∧ ∃ v', e = .returned (.tuple #[v', .bool r.isSome]) ∧ ∀ s', r = some s' → BindsAt W v' s'

/-- The contract of match at p. -/
def DmAt (p : T) : Prop := ∀ (t : T) (sp st v : Value) (s : List Bd) (w : World), BindsAt w v s → ArgsAt w sp p.args → ArgsAt w st t.args → s.length + p.nn ≤ 4001 →
    Calls Try.prog 41 #[v, tval p sp, tval t st] w fun e W => DmIs w (dmt p t s) e W

end Go.Proofs.Ytblfbmdnkgebdaa

/-
  The document's match: the walks.
-/
namespace Go.Proofs.Ytblfbmdnkgebdaa
open Go.RowKit Go.Maps

theorem dm_found {p t t' : T} {s : List Bd} (h : uvar p = true) (e : findB s p.v = some t') : dmt p t s = if same t' t = true then some s else none := by rw [dmt_var h, e]
theorem dm_new {p t : T} {s : List Bd} (h : uvar p = true) (e : findB s p.v = none) : dmt p t s = some (withL s (p.v, t)) := by rw [dmt_var h, e]

set_option maxRecDepth 100000 in
set_option maxHeartbeats 4000000 in
theorem rm_var (p t : T) (s : List Bd) (pa ta va : Option Addr) (pc tc vc : Nat) (w : World) (hv : uvar p = true) (hs : BindsAt w (.slice va s.length vc) s) (ht : ArgsAt w (.slice ta t.args.length tc) t.args) (hlen : s.length ≤ 4000) :
    Calls Try.prog 41 #[.slice va s.length vc, tval p (.slice pa p.args.length pc), tval t (.slice ta t.args.length tc)] w fun e W => DmIs w (dmt p t s) e W := by
  have hdd : p.fn.toList.isEmpty = true := by rw [ba_isEmpty]; exact hv
  have HB : Hid (Below w.heap.size w (tbox2 w p (.slice pa p.args.length pc) t (.slice ta t.args.length tc))) := below_box2 w _ _
  obtain ⟨⟨p0, p1, p2⟩, ⟨t0, t1, t2⟩⟩ := tbox2_cells w p (.slice pa p.args.length pc) t (.slice ta t.args.length tc)
  have HC : Hid (∀ W, Below (w.heap.size + 2) (tbox2 w p (.slice pa p.args.length pc) t (.slice ta t.args.length tc)) W → W.cell? ⟨w.heap.size, 0, none⟩ = some (.int .i64 p.v) ∧ W.cell? ⟨w.heap.size + 1, 0, none⟩ = some (.int .i64 t.v) ∧ W.cell? ⟨w.heap.size + 1, 1, none⟩ = some (.string t.fn) ∧ W.cell? ⟨w.heap.size + 1, 2, none⟩ = some (.slice ta t.args.length tc)) := fun W hW => ⟨kc hW (by omega) p0, kc hW (by omega) t0, kc hW (by omega) t1, kc hW (by omega) t2⟩
  have HS : Hid (BindsAt w (.slice va s.length vc) s ∧ ArgsAt w (.slice ta t.args.length tc) t.args ∧ uvar p = true) := ⟨hs, ht, hv⟩
  clear hs ht hv p0 p2 t0 t1 t2
  go_enter Try.func41, Try.ntmps41
  go_wp2
  go_loopw [8] (fun vi wr => ∃ i : Nat, vi = .int .i64 i ∧ i ≤ s.length ∧ Hid (∀ x ∈ s.take i, x.1 ≠ p.v) ∧ Below (w.heap.size + 2) (tbox2 w p (.slice pa p.args.length pc) t (.slice ta t.args.length tc)) wr) (fun vi _ => s.length - (intOf vi).toNat)
  case atStart => exact ⟨0, rfl, Nat.zero_le _, by intro x hx; simp at hx, Below.refl _ _⟩
  case round =>
    obtain ⟨i, rfl, hi, HN, hw⟩ := hrel
    have hwb : Below w.heap.size w wr := HB.out.trans (hw.mono (by omega))
    obtain ⟨a0, b0, b1, b2⟩ := HC.out wr hw
    by_cases hlt : i < s.length
    · obtain ⟨b, o, sx, e1, hB0⟩ := HS.out.1.nth hlt
      cases e1
      have hB := hB0.keep hwb
      obtain ⟨sa, sc, rfl, _, _⟩ := hB.sub.slice
      obtain ⟨x, hx⟩ : ∃ x, s[i] = x := ⟨_, rfl⟩
      rw [hx] at hB
      have hsz := hw.size
      simp only [World.size_alloc] at hsz
      have l0 : w.heap.size < wr.heap.size := by omega
      have f0 := fun q => cell_far hB.lt hB.c0 q
      have f1 := fun q => cell_far l0 a0 q
      have j0 : (i : Int) < (s.length : Int) := by omega
      have j1 : (0 : Int) ≤ (i : Int) := Int.natCast_nonneg i
      obtain ⟨g0, g1, g2, g3⟩ : wr.cell? ⟨b, o + i * 4, none⟩ = some (.int .i64 x.1) ∧ wr.cell? ⟨b, o + i * 4 + 1, none⟩ = some (.int .i64 x.2.v) ∧ wr.cell? ⟨b, o + i * 4 + 2, none⟩ = some (.string x.2.fn) ∧ wr.cell? ⟨b, o + i * 4 + 3, none⟩ = some (.slice sa x.2.args.length sc) := by
        rw [hx] at *
        exact ⟨hB.c0, hB.c1, hB.c2, hB.c3⟩
      by_cases he : x.1 = p.v
      · have he' : (x.1 == p.v) = true := by rw [beq_iff_eq]; exact he
        have HF : Hid (dmt p t s = if same x.2 t = true then some s else none) := dm_found HS.out.2.2 (by rw [← hx]; exact find_take hlt HN.out (by rw [hx]; exact he))
        have HX : Hid (ArgsAt wr (.slice sa x.2.args.length sc) x.2.args ∧ ArgsAt wr (.slice ta t.args.length tc) t.args ∧ b < wr.heap.size ∧ w.heap.size + 1 < wr.heap.size ∧ Below w.heap.size w wr) := ⟨hB.sub, ArgsAt.keep hwb (Nat.le_refl _) HS.out.2.1, hB.lt, by omega, hwb⟩
        clear he hx hB hB0 hwb HN
        go_wp2
        go_quiet (fail)
        obtain ⟨W3, hW3⟩ : ∃ W3, wr.drewN nq = W3 := ⟨_, rfl⟩
        have hb3 : Below wr.heap.size wr W3 := by rw [← hW3]; exact below_drewN (Below.refl _ _) nq
        rw [hW3]
        have k1 := kc hb3 HX.out.2.2.1 g1
        have k2 := kc hb3 HX.out.2.2.1 g2
        have k3 := kc hb3 HX.out.2.2.1 g3
        have k4 := kc hb3 HX.out.2.2.2.1 b0
        have k5 := kc hb3 HX.out.2.2.2.1 b1
        have k6 := kc hb3 HX.out.2.2.2.1 b2
        have l1 : b < W3.heap.size := Nat.lt_of_lt_of_le HX.out.2.2.1 hb3.size
        have l2 : w.heap.size + 1 < W3.heap.size := Nat.lt_of_lt_of_le HX.out.2.2.2.1 hb3.size
        have hb3d : Below wr.heap.size wr W3.drew := hb3.drew
        have hsame := (rsame_any x.2 t (.slice sa x.2.args.length sc) (.slice ta t.args.length tc) W3.drew (ArgsAt.keep hb3d (Nat.le_refl _) HX.out.1) (ArgsAt.keep hb3d (Nat.le_refl _) HX.out.2.1)).mono (R' := fun e w' => e = .returned (.bool (same x.2 t)) ∧ Below W3.heap.size W3 w') (fun e w' h => ⟨h.1, (Below.refl _ W3).drew.trans h.2⟩)
        have HB3 : Hid (Below wr.heap.size wr W3) := hb3
        clear hW3 hb3 hb3d f0 f1 g0 g1 g2 g3 b0 b1 b2 a0
        go_wp2
        go_region_held3 (fun X => X.cell? ⟨b, o + i * 4 + 1, none⟩ = some (.int .i64 x.2.v) ∧ X.cell? ⟨b, o + i * 4 + 1 + 1, none⟩ = some (.string x.2.fn) ∧ X.cell? ⟨b, o + i * 4 + 1 + 2, none⟩ = some (.slice sa x.2.args.length sc) ∧ X.cell? ⟨w.heap.size + 1, 0, none⟩ = some (.int .i64 t.v) ∧ X.cell? ⟨w.heap.size + 1, 1, none⟩ = some (.string t.fn) ∧ X.cell? ⟨w.heap.size + 1, 2, none⟩ = some (.slice ta t.args.length tc)) (first | exact ⟨k1, k2, k3, k4, k5, k6⟩ | exact ⟨kc hb' l1 k1, kc hb' l1 k2, kc hb' l1 k3, kc hb' l2 k4, kc hb' l2 k5, kc hb' l2 k6⟩) (first | (go_at_call 18; refine hsame.mono ?_; rintro e w' ⟨rfl, hb'⟩))
        all_goals go_wp2
        all_goals (
          refine bodyPost_ret (v := .tuple #[.slice (some ⟨b, o, none⟩) s.length vc, .bool (same x.2 t)]) (by simp [results, Try.results41, go_sem]) rfl ?_
          have hbw : Below wr.heap.size wr w' := HB3.out.trans (hb'.mono HB3.out.size)
          have hww : Below w.heap.size w w' := HX.out.2.2.2.2.trans (hbw.mono HX.out.2.2.2.2.size)
          refine ⟨hww, .slice (some ⟨b, o, none⟩) s.length vc, ?_, fun s' e => ?_⟩
          · rw [HF.out]
            cases same x.2 t <;> rfl
          · rw [HF.out] at e
            by_cases h : same x.2 t = true
            · rw [if_pos h] at e
              cases e
              exact HS.out.1.keep hww
            · rw [if_neg h] at e
              cases e)
      · have he' : (x.1 == p.v) = false := by rw [beq_eq_false_iff_ne]; exact he
        have HN' : Hid (∀ y ∈ s.take (i + 1), y.1 ≠ p.v) := by
          intro y hy
          rw [List.take_succ_eq_append_getElem hlt] at hy
          rcases List.mem_append.1 hy with hy | hy
          · exact HN.out y hy
          · simp only [List.mem_singleton] at hy
            subst hy
            rw [hx]; exact he
        clear he hx hB hB0
        go_wp2
        go_quiet (fail)
        go_wp2
        go_roundw
        case rel => exact ⟨i + 1, by go_num, by omega, HN'.out, below_drewN hw _⟩
        case measure => simp [intOf]; omega
    · have hf : findB s p.v = none := find_none (fun x hx => HN.out x (by rw [List.take_of_length_le (by omega)]; exact hx))
      have HF : Hid (dmt p t s = some (withL s (p.v, t))) := dm_new HS.out.2.2 hf
      have hwith := rwith_any s (p.v, t) (.slice va s.length vc) (.slice ta t.args.length tc) wr (HS.out.1.keep hwb) (ArgsAt.keep hwb (Nat.le_refl _) HS.out.2.1) hlen
      have HW : Hid (Below w.heap.size w wr) := hwb
      clear hf hwb
      go_wp2_with (go_at_call 36; refine hwith.mono ?_; rintro e W1 ⟨v', rfl, hb1, hb2⟩)
      refine bodyPost_ret (v := .tuple #[v', .bool true]) (by simp [results, Try.results41, go_sem]) rfl ?_
      refine ⟨HW.out.trans (hb2.mono HW.out.size), v', by rw [HF.out]; rfl, fun s' e => ?_⟩
      rw [HF.out] at e
      cases e
      exact hb1

theorem args_nn' (p : T) : p.args.length ≤ p.nn := by
  rw [T.nn_eq]
  have h : ∀ l : List T, l.length ≤ (l.map T.nn).sum := by
    intro l
    induction l with
    | nil => exact Nat.zero_le _
    | cons a r ih => have := a.nn_pos; simp; omega
  have := h p.args
  omega

theorem uvar_empty {p : T} (hv : uvar p = false) : p.fn.toList.isEmpty = false := by rw [ba_isEmpty]; exact hv

set_option maxRecDepth 100000 in
set_option maxHeartbeats 2000000 in
theorem rm_no (p t : T) (s : List Bd) (pa ta va : Option Addr) (pc tc vc vn : Nat) (w : World) (hv : uvar p = false) (hf : p.fn ≠ t.fn ∨ (p.fn = t.fn ∧ p.args.length ≠ t.args.length)) :
    Calls Try.prog 41 #[.slice va vn vc, tval p (.slice pa p.args.length pc), tval t (.slice ta t.args.length tc)] w fun e W => DmIs w (dmt p t s) e W := by
  have hdd := uvar_empty hv
  have HB : Hid (Below w.heap.size w (tbox2 w p (.slice pa p.args.length pc) t (.slice ta t.args.length tc))) := below_box2 w _ _
  have HF : Hid (dmt p t s = none) := dmt_no hv (by rcases hf with h | h; exact .inl h; exact .inr h.2)
  rcases hf with h | ⟨h, hl⟩
  · have h2 : ¬ p.fn.toList = t.fn.toList := fun e => h (ba_toList_inj.1 e)
    clear h hv
    go_enter Try.func41, Try.ntmps41
    go_wp2
    refine bodyPost_ret (v := .tuple #[.slice none 0 0, .bool false]) (by simp [results, Try.results41, go_sem]) rfl ?_
    exact ⟨HB.out, _, by rw [HF.out]; rfl, fun s' e => by rw [HF.out] at e; cases e⟩
  · have h2 : p.fn.toList = t.fn.toList := ba_toList_inj.2 h
    have hdt : t.fn.toList.isEmpty = false := by rw [← h2]; exact hdd
    have h3 : ((p.args.length : Int) != (t.args.length : Int)) = true := by rw [bne_iff_ne]; omega
    clear h hv hl
    go_enter Try.func41, Try.ntmps41
    go_wp2
    refine bodyPost_ret (v := .tuple #[.slice none 0 0, .bool false]) (by simp [results, Try.results41, go_sem]) rfl ?_
    exact ⟨HB.out, _, by rw [HF.out]; rfl, fun s' e => by rw [HF.out] at e; cases e⟩

theorem take_nn {l : List T} {k : Nat} (hk : k < l.length) : ((l.take (k + 1)).map T.nn).sum = ((l.take k).map T.nn).sum + l[k].nn := by
  rw [List.take_succ_eq_append_getElem hk, List.map_append, List.sum_append]
  simp
theorem take_nn_le (l : List T) (k : Nat) : ((l.take k).map T.nn).sum ≤ (l.map T.nn).sum := by
  have h : (l.map T.nn).sum = ((l.take k).map T.nn).sum + ((l.drop k).map T.nn).sum := by
    rw [← List.sum_append, ← List.map_append, List.take_append_drop]
  omega

/-- What stands in the loop over the arguments. -/
def RI (w W1 : World) (p t : T) (s : List Bd) (k : Nat) (v : Value) (W : World) : Prop :=
  ∃ sk, dmt.dms (p.args.take k) (t.args.take k) s = some sk ∧ BindsAt W v sk ∧ sk.length ≤ s.length + ((p.args.take k).map T.nn).sum ∧ Below (w.heap.size + 2) W1 W

set_option maxRecDepth 100000 in
set_option maxHeartbeats 4000000 in
theorem rm_fn (p t : T) (s : List Bd) (ih : ∀ a ∈ p.args, DmAt a) (pa ta va : Option Addr) (pc tc vc : Nat) (w : World) (hv : uvar p = false) (hs : BindsAt w (.slice va s.length vc) s) (hp : ArgsAt w (.slice pa p.args.length pc) p.args) (ht : ArgsAt w (.slice ta t.args.length tc) t.args) (hlen : s.length + p.nn ≤ 4001) (hf : p.fn = t.fn) (hl : p.args.length = t.args.length) :
    Calls Try.prog 41 #[.slice va s.length vc, tval p (.slice pa p.args.length pc), tval t (.slice ta t.args.length tc)] w fun e W => DmIs w (dmt p t s) e W := by
  have hdd := uvar_empty hv
  have h2 : p.fn.toList = t.fn.toList := ba_toList_inj.2 hf
  have hdt : t.fn.toList.isEmpty = false := by rw [← h2]; exact hdd
  have h3 : ((p.args.length : Int) != (t.args.length : Int)) = false := by rw [bne_eq_false_iff_eq]; omega
  have HB : Hid (Below w.heap.size w (tbox2 w p (.slice pa p.args.length pc) t (.slice ta t.args.length tc))) := below_box2 w _ _
  obtain ⟨⟨p0, p1, p2⟩, ⟨t0, t1, t2⟩⟩ := tbox2_cells w p (.slice pa p.args.length pc) t (.slice ta t.args.length tc)
  have HC : Hid (∀ W, Below (w.heap.size + 2) (tbox2 w p (.slice pa p.args.length pc) t (.slice ta t.args.length tc)) W → W.cell? ⟨w.heap.size, 2, none⟩ = some (.slice pa p.args.length pc) ∧ W.cell? ⟨w.heap.size + 1, 2, none⟩ = some (.slice ta t.args.length tc)) := fun W hW => ⟨kc hW (by omega) p2, kc hW (by omega) t2⟩
  have HF : Hid (dmt p t s = dmt.dms p.args t.args s ∧ p.args.length = t.args.length ∧ s.length + p.nn ≤ 4001 ∧ ∀ a ∈ p.args, DmAt a) := ⟨dmt_fn hv hf hl, hl, hlen, ih⟩
  have HA : Hid (ArgsAt w (.slice pa p.args.length pc) p.args ∧ ArgsAt w (.slice ta t.args.length tc) t.args ∧ BindsAt w (.slice va s.length vc) s) := ⟨hp, ht, hs⟩
  have HI0 : Hid (RI w (tbox2 w p (.slice pa p.args.length pc) t (.slice ta t.args.length tc)) p t s 0 (.slice va s.length vc) (tbox2 w p (.slice pa p.args.length pc) t (.slice ta t.args.length tc))) := ⟨s, by rw [List.take_zero, List.take_zero]; exact dms_nil _ _, hs.keep HB.out, by simp, Below.refl _ _⟩
  have hpl : p.args.length ≤ 4001 := by have := args_nn' p; omega
  clear hv hf hl hs hp ht ih p0 t0
  go_enter Try.func41, Try.ntmps41
  go_wp2
  go_loopw [0, 9] (fun v vi wr => ∃ k : Nat, vi = .int .i64 k ∧ k ≤ p.args.length ∧ (∃ a n c, v = .slice a n c) ∧ Hid (RI w (tbox2 w p (.slice pa p.args.length pc) t (.slice ta t.args.length tc)) p t s k v wr)) (fun _ vi _ => p.args.length - (intOf vi).toNat)
  case atStart => exact ⟨0, rfl, Nat.zero_le _, ⟨_, _, _, rfl⟩, HI0.out⟩
  case round =>
    obtain ⟨k, rfl, hk, ⟨ka, kn, kcc, rfl⟩, sk, hd, hbk, hlk, hw⟩ := hrel
    have hwb : Below w.heap.size w wr := HB.out.trans (hw.mono (by omega))
    obtain ⟨a2, b2⟩ := HC.out wr hw
    by_cases hlt : k < p.args.length
    · have hlt' : k < t.args.length := by have := HF.out.2.1; omega
      obtain ⟨b, o, sx, e1, hbl, c0, c1, c2, hsx⟩ := HA.out.1.nth hlt
      obtain ⟨b', o', sy, e2, hbl', d0, d1, d2, hsy⟩ := HA.out.2.1.nth hlt'
      cases e1
      cases e2
      have f0 := kc hwb hbl c0
      have f1 := kc hwb hbl c1
      have f2 := kc hwb hbl c2
      have g0 := kc hwb hbl' d0
      have g1 := kc hwb hbl' d1
      have g2 := kc hwb hbl' d2
      have hsz := hw.size
      simp only [World.size_alloc] at hsz
      have l0 : w.heap.size < wr.heap.size := by omega
      have l1 : w.heap.size + 1 < wr.heap.size := by omega
      have lb : b < wr.heap.size := Nat.lt_of_lt_of_le hbl hwb.size
      have lb' : b' < wr.heap.size := Nat.lt_of_lt_of_le hbl' hwb.size
      have j0 : (k : Int) < (p.args.length : Int) := by omega
      have j1 : (k : Int) < (t.args.length : Int) := by omega
      have j2 : (0 : Int) ≤ (k : Int) := Int.natCast_nonneg k
      obtain ⟨x, hx⟩ : ∃ x, p.args[k] = x := ⟨_, rfl⟩
      obtain ⟨y, hy⟩ : ∃ y, t.args[k] = y := ⟨_, rfl⟩
      have hstep := dms_step HF.out.2.1 hlt s
      have hnn := take_nn hlt
      have hnl := take_nn_le p.args (k + 1)
      have hpn := T.nn_eq p
      rw [hd, hx, hy] at hstep
      rw [hx] at hnn
      have hdr : Below wr.heap.size wr wr.drew := (Below.refl _ wr).drew
      have hw0 : Below w.heap.size w wr.drew := hwb.trans (hdr.mono hwb.size)
      have hcall := (HF.out.2.2.2 x (by rw [← hx]; exact List.getElem_mem hlt) y sx sy (.slice ka kn kcc) sk wr.drew (hbk.keep hdr) (by rw [← hx]; exact ArgsAt.keep hw0 (Nat.le_refl _) hsx) (by rw [← hy]; exact ArgsAt.keep hw0 (Nat.le_refl _) hsy) (by have := HF.out.2.2.1; omega)).mono (R' := fun e w' => Below wr.heap.size wr w' ∧ ∃ v', e = .returned (.tuple #[v', .bool (dmt x y sk).isSome]) ∧ ∀ s', dmt x y sk = some s' → BindsAt w' v' s') (fun e w' h => ⟨hdr.trans h.1, h.2⟩)
      simp only [hx] at f0 f1 f2
      simp only [hy] at g0 g1 g2
      have HW : Hid (Below w.heap.size w wr ∧ Below (w.heap.size + 2) (tbox2 w p (.slice (some ⟨b, o, none⟩) p.args.length pc) t (.slice (some ⟨b', o', none⟩) t.args.length tc)) wr ∧ w.heap.size + 2 ≤ wr.heap.size) := ⟨hwb, hw, by omega⟩
      cases hr : dmt x y sk with
      | none =>
        have HE : Hid (dmt p t s = none) := by
          show dmt p t s = none
          rw [HF.out.1]
          refine dms_stop (k := k + 1) HF.out.2.1 ?_
          rw [hstep]
          exact hr
        rw [hr] at hcall
        clear hstep hr hd hnn hnl hpn hx hy hbk hwb hw hdr hw0 hsx hsy c0 c1 c2 d0 d1 d2 hlk
        go_wp2
        go_region_held3 (fun X => X.cell? ⟨w.heap.size, 2, none⟩ = some (.slice (some ⟨b, o, none⟩) p.args.length pc) ∧ X.cell? ⟨w.heap.size + 1, 2, none⟩ = some (.slice (some ⟨b', o', none⟩) t.args.length tc) ∧ X.cell? ⟨b, o + k * 3, none⟩ = some (.int .i64 x.v) ∧ X.cell? ⟨b, o + k * 3 + 1, none⟩ = some (.string x.fn) ∧ X.cell? ⟨b, o + k * 3 + 2, none⟩ = some sx ∧ X.cell? ⟨b', o' + k * 3, none⟩ = some (.int .i64 y.v) ∧ X.cell? ⟨b', o' + k * 3 + 1, none⟩ = some (.string y.fn) ∧ X.cell? ⟨b', o' + k * 3 + 2, none⟩ = some sy) (first | exact ⟨a2, b2, f0, f1, f2, g0, g1, g2⟩ | exact ⟨kc hb' l0 a2, kc hb' l1 b2, kc hb' lb f0, kc hb' lb f1, kc hb' lb f2, kc hb' lb' g0, kc hb' lb' g1, kc hb' lb' g2⟩) (first | (go_at_call 41; refine hcall.mono ?_; rintro e w' ⟨hb', v', rfl, hk'⟩))
        all_goals go_wp2
        all_goals (
          refine bodyPost_ret (v := .tuple #[.slice none 0 0, .bool false]) (by simp [results, Try.results41, go_sem]) rfl ?_
          exact ⟨HW.out.1.trans (hb'.mono HW.out.1.size), _, by rw [HE.out]; rfl, fun s' e => by rw [HE.out] at e; cases e⟩)
      | some s1 =>
        have HL := dmt_len x y sk s1 hr
        have HE : Hid (∀ W v', Below wr.heap.size wr W → BindsAt W v' s1 → RI w (tbox2 w p (.slice (some ⟨b, o, none⟩) p.args.length pc) t (.slice (some ⟨b', o', none⟩) t.args.length tc)) p t s (k + 1) v' W) := fun W v' h1 h2 => ⟨s1, by rw [hstep]; exact hr, h2, by omega, hw.trans (h1.mono (by omega))⟩
        rw [hr] at hcall
        clear hstep hr hd hnn hnl hpn hx hy hbk hwb hw hdr hw0 hsx hsy c0 c1 c2 d0 d1 d2 hlk HL
        go_wp2
        go_region_held3 (fun X => X.cell? ⟨w.heap.size, 2, none⟩ = some (.slice (some ⟨b, o, none⟩) p.args.length pc) ∧ X.cell? ⟨w.heap.size + 1, 2, none⟩ = some (.slice (some ⟨b', o', none⟩) t.args.length tc) ∧ X.cell? ⟨b, o + k * 3, none⟩ = some (.int .i64 x.v) ∧ X.cell? ⟨b, o + k * 3 + 1, none⟩ = some (.string x.fn) ∧ X.cell? ⟨b, o + k * 3 + 2, none⟩ = some sx ∧ X.cell? ⟨b', o' + k * 3, none⟩ = some (.int .i64 y.v) ∧ X.cell? ⟨b', o' + k * 3 + 1, none⟩ = some (.string y.fn) ∧ X.cell? ⟨b', o' + k * 3 + 2, none⟩ = some sy) (first | exact ⟨a2, b2, f0, f1, f2, g0, g1, g2⟩ | exact ⟨kc hb' l0 a2, kc hb' l1 b2, kc hb' lb f0, kc hb' lb f1, kc hb' lb f2, kc hb' lb' g0, kc hb' lb' g1, kc hb' lb' g2⟩) (first | (go_at_call 41; refine hcall.mono ?_; rintro e w' ⟨hb', v', rfl, hk'⟩))
        all_goals (have hv1 := hk' s1 rfl; obtain ⟨na, nc, rfl⟩ := hv1.slice; have HE' := HE.out w' _ hb' hv1; have HE2 : Hid (RI w (tbox2 w p (.slice (some ⟨b, o, none⟩) p.args.length pc) t (.slice (some ⟨b', o', none⟩) t.args.length tc)) p t s (k + 1) (.slice na s1.length nc) w') := HE'; clear HE' hv1 hk')
        all_goals go_wp2
        all_goals go_roundw
        case rel => exact ⟨k + 1, by go_num, by omega, ⟨_, _, _, rfl⟩, HE2.out⟩
        case measure => simp [intOf]; omega
    · have HE : Hid (dmt p t s = some sk) := by
        show dmt p t s = some sk
        have hl := HF.out.2.1
        rw [List.take_of_length_le (by omega), List.take_of_length_le (by omega)] at hd
        rw [HF.out.1, hd]
      have HK : Hid (BindsAt wr (.slice ka kn kcc) sk ∧ Below w.heap.size w wr) := ⟨hbk, hwb⟩
      clear hd hbk hwb hlk
      go_wp2
      refine bodyPost_ret (v := .tuple #[.slice ka kn kcc, .bool true]) (by simp [results, Try.results41, go_sem]) rfl ?_
      exact ⟨HK.out.2, _, by rw [HE.out]; rfl, fun s' e => by rw [HE.out] at e; cases e; exact HK.out.1⟩

end Go.Proofs.Ytblfbmdnkgebdaa

/-
  The document's match put together; Own.
-/
namespace Go.Proofs.Ytblfbmdnkgebdaa
open Go.RowKit Go.Maps

theorem rmatch_any (p : T) : DmAt p := by
  induction p using T.ind with
  | _ p ih =>
    intro t sp st v s w hs hp ht hlen
    obtain ⟨pa, pc, rfl, _, _⟩ := hp.slice
    obtain ⟨ta, tc, rfl, _, _⟩ := ht.slice
    obtain ⟨va, vc, rfl⟩ := hs.slice
    have hpp := p.nn_pos
    cases hv : uvar p
    · by_cases hf : p.fn = t.fn
      · by_cases hl : p.args.length = t.args.length
        · exact rm_fn p t s ih pa ta va pc tc vc w hv hs hp ht hlen hf hl
        · exact rm_no p t s pa ta va pc tc vc s.length w hv (.inr ⟨hf, hl⟩)
      · exact rm_no p t s pa ta va pc tc vc s.length w hv (.inl hf)
    · exact rm_var p t s pa ta va pc tc vc w hv hs ht (by omega)

theorem binds_nil (w : World) : BindsAt w (.slice none 0 0) [] := ⟨none, 0, rfl, Nat.le_refl _, by decide, fun h => absurd h (by simp)⟩

/-- Not the variable itself. -/
def notSelf (x : Bd) : Bool := !(decide (x.2.fn.size = 0) && decide (x.2.v = x.1))

/-- What Own's loop keeps. -/
structure OI (w : World) (s : List Bd) (i : Nat) (ps : List (Bd × Value)) (v : Value) (W : World) : Prop where
  own : OwnB w v ps W
  ls : ps.map (·.1) = (s.take i).filter notSelf
  args : ∀ p ∈ ps, ArgsAt w p.2 p.1.2.args

theorem OI.len {w : World} {s : List Bd} {i : Nat} {ps : List (Bd × Value)} {v : Value} {W : World} (h : OI w s i ps v W) : ps.length ≤ i := by
  have h1 := congrArg List.length h.ls
  rw [List.length_map] at h1
  have h2 := List.length_filter_le notSelf (s.take i)
  rw [List.length_take] at h2
  omega

theorem filter_step {s : List Bd} {i : Nat} (hi : i < s.length) : (s.take (i + 1)).filter notSelf = (s.take i).filter notSelf ++ (if notSelf s[i] = true then [s[i]] else []) := by
  rw [List.take_succ_eq_append_getElem hi, List.filter_append]
  congr 1
  by_cases h : notSelf s[i] = true <;> simp [h]

set_option maxRecDepth 100000 in
set_option maxHeartbeats 4000000 in
theorem rown_any (s : List Bd) (v : Value) (w : World) (hs : BindsAt w v s) (hlen : s.length ≤ 100000) :
    Calls Try.prog 42 #[v] w fun e W => ∃ v', e = .returned v' ∧ BindsAt W v' (s.filter notSelf) ∧ Below w.heap.size w W := by
  obtain ⟨va, vc, rfl⟩ := hs.slice
  have HS : Hid (BindsAt w (.slice va s.length vc) s) := hs
  obtain ⟨i0, hi0, hz0, hz1, hz2⟩ := info_parts Try.info35
  clear hs
  go_enter Try.func42, Try.ntmps42
  go_wp2
  go_loopw [3, 4] (fun vo vi wr => ∃ (i : Nat) (ps : List (Bd × Value)), vi = .int .i64 i ∧ i ≤ s.length ∧ Hid (OI w s i ps vo wr)) (fun _ vi _ => s.length - (intOf vi).toNat)
  case atStart => exact ⟨0, [], rfl, Nat.zero_le _, ⟨World.ownsRow_nil _ _ _ _, Below.refl _ _⟩, by simp, by simp⟩
  case round =>
    obtain ⟨i, ps, rfl, hi, HI⟩ := hrel
    obtain ⟨pa, pc, hv⟩ := rowB_form HI.out.own.row
    subst hv
    by_cases hlt : i < s.length
    · obtain ⟨b, o, sx, e1, hB0⟩ := HS.out.nth hlt
      cases e1
      have hB := hB0.keep HI.out.own.bel
      obtain ⟨sa, sc, rfl, _, _⟩ := hB.sub.slice
      have hfs := filter_step hlt
      obtain ⟨x, hx⟩ : ∃ x, s[i] = x := ⟨_, rfl⟩
      rw [hx] at hB hB0 hfs
      have hpl : ps.length ≤ i := HI.out.len
      obtain ⟨g0, g1, g2, g3⟩ : wr.cell? ⟨b, o + i * 4, none⟩ = some (.int .i64 x.1) ∧ wr.cell? ⟨b, o + i * 4 + 1, none⟩ = some (.int .i64 x.2.v) ∧ wr.cell? ⟨b, o + i * 4 + 2, none⟩ = some (.string x.2.fn) ∧ wr.cell? ⟨b, o + i * 4 + 3, none⟩ = some (.slice sa x.2.args.length sc) := ⟨hB.c0, hB.c1, hB.c2, hB.c3⟩
      have f0 := fun q => cell_far hB.lt g0 q
      have f1 := fun q => cell_far hB.lt g1 q
      have f2 := fun q => cell_far hB.lt g2 q
      have j0 : (i : Int) < (s.length : Int) := by omega
      have j1 : (0 : Int) ≤ (i : Int) := Int.natCast_nonneg i
      have HB : Hid (b < wr.heap.size ∧ ArgsAt w (.slice sa x.2.args.length sc) x.2.args) := ⟨hB.lt, hB0.sub⟩
      clear hB hB0 hx
      by_cases h0 : x.2.fn.size = 0
      · have hd : x.2.fn.toList.isEmpty = true := by rw [ba_isEmpty]; exact decide_eq_true h0
        by_cases h1 : x.2.v = x.1
        · have HN : Hid (notSelf x = false) := by show notSelf x = false; simp [notSelf, h0, h1]
          have hn' : (x.2.v != x.1) = false := by rw [bne_eq_false_iff_eq]; exact h1
          clear h0 h1
          have HF : Hid ((s.take (i + 1)).filter notSelf = (s.take i).filter notSelf) := (show _ from by rw [HN.out] at hfs; simpa using hfs : _ = _)
          clear hfs
          go_wp2
          go_quiet (fail)
          go_wp2
          go_roundw
          case rel => exact ⟨i + 1, ps, by go_num, by omega, HI.out.own.keep (below_drewN (Below.refl _ _) nq), by rw [HF.out]; exact HI.out.ls, HI.out.args⟩
          case measure => simp [intOf]; omega
        · have HN : Hid (notSelf x = true) := by show notSelf x = true; simp [notSelf, h1]
          have hn' : (x.2.v != x.1) = true := by rw [bne_iff_ne]; exact h1
          have HF : Hid ((s.take (i + 1)).filter notSelf = (s.take i).filter notSelf ++ [x]) := (show _ from by rw [HN.out] at hfs; simpa using hfs : _ = _)
          clear h0 h1 hfs
          go_wp2
          go_quiet (fail)
          obtain ⟨W3, hW3⟩ : ∃ W3, wr.drewN nq = W3 := ⟨_, rfl⟩
          have hb3 : Below wr.heap.size wr W3 := by rw [← hW3]; exact below_drewN (Below.refl _ _) nq
          rw [hW3]
          have m0 := kc hb3 HB.out.1 g0
          have m1 := kc hb3 HB.out.1 g1
          have m2 := kc hb3 HB.out.1 g2
          have m3 := kc hb3 HB.out.1 g3
          have HO3 : Hid (OwnB w (.slice pa ps.length pc) ps W3) := HI.out.own.keep hb3
          clear hW3 hb3 f0 f1 f2 g0 g1 g2 g3
          go_wp2_with (first
            | (at_builtin; have HR : Hid ((W3.alloc (.cells #[.int .i64 x.1, .int .i64 x.2.v, .string x.2.fn, .slice sa x.2.args.length sc] 35)).ownsRow w.heap.size 35 4 (.slice pa ps.length pc) ps.length (flatB ps)) := (HO3.out.keep (below_box W3 _)).row; have HSZ : Hid (w.heap.size ≤ (W3.alloc (.cells #[.int .i64 x.1, .int .i64 x.2.v, .string x.2.fn, .slice sa x.2.args.length sc] 35)).heap.size) := Nat.le_trans HO3.out.bel.size (by simp); refine wpList_append_own_at _ rfl _ _ 25 rfl w.heap.size 35 i0 (.agg #[.int .i64 0, .int .i64 0, .string ⟨#[]⟩, .slice none 0 0]) 4 56 Try.underlying25 hi0 hz0 hz1 hz2 rfl (by decide) _ _ _ rfl HR.out ⟨W3.heap.size, 0, none⟩ 1 1 [.int .i64 x.1, .int .i64 x.2.v, .string x.2.fn, .slice sa x.2.args.length sc] rfl rfl (lit4 W3 _ _ _ _ 35) (by simp [Value.oneCell']) (by unfold maxLen; omega) (by omega) HSZ.out ?_; intro v4 w4 h2 h3 _ _; obtain ⟨pa4, pc4, rfl⟩ := rowB_form h2; have HE : Hid (OI w s (i + 1) (ps ++ [(x, .slice sa x.2.args.length sc)]) (.slice pa4 (ps.length + 1) pc4) w4) := ⟨HO3.out.push (x, .slice sa x.2.args.length sc) _ w4 h2 _ h3, by rw [HF.out, List.map_append, HI.out.ls]; rfl, fun p hp => (List.mem_append.1 hp).elim (HI.out.args p) (fun hp => by simp only [List.mem_singleton] at hp; subst hp; exact HB.out.2)⟩; clear h2 h3 HR HSZ))
          go_roundw
          case rel => exact ⟨i + 1, _, by go_num, by omega, HE.out⟩
          case measure => simp [intOf]; omega
      · have hd : x.2.fn.toList.isEmpty = false := by rw [ba_isEmpty]; exact decide_eq_false h0
        have HN : Hid (notSelf x = true) := by show notSelf x = true; simp [notSelf, h0]
        have HF : Hid ((s.take (i + 1)).filter notSelf = (s.take i).filter notSelf ++ [x]) := (show _ from by rw [HN.out] at hfs; simpa using hfs : _ = _)
        clear h0 hfs
        go_wp2
        go_quiet (fail)
        obtain ⟨W3, hW3⟩ : ∃ W3, wr.drewN nq = W3 := ⟨_, rfl⟩
        have hb3 : Below wr.heap.size wr W3 := by rw [← hW3]; exact below_drewN (Below.refl _ _) nq
        rw [hW3]
        have m0 := kc hb3 HB.out.1 g0
        have m1 := kc hb3 HB.out.1 g1
        have m2 := kc hb3 HB.out.1 g2
        have m3 := kc hb3 HB.out.1 g3
        have HO3 : Hid (OwnB w (.slice pa ps.length pc) ps W3) := HI.out.own.keep hb3
        clear hW3 hb3 f0 f1 f2 g0 g1 g2 g3
        go_wp2_with (first
          | (at_builtin; have HR : Hid ((W3.alloc (.cells #[.int .i64 x.1, .int .i64 x.2.v, .string x.2.fn, .slice sa x.2.args.length sc] 35)).ownsRow w.heap.size 35 4 (.slice pa ps.length pc) ps.length (flatB ps)) := (HO3.out.keep (below_box W3 _)).row; have HSZ : Hid (w.heap.size ≤ (W3.alloc (.cells #[.int .i64 x.1, .int .i64 x.2.v, .string x.2.fn, .slice sa x.2.args.length sc] 35)).heap.size) := Nat.le_trans HO3.out.bel.size (by simp); refine wpList_append_own_at _ rfl _ _ 25 rfl w.heap.size 35 i0 (.agg #[.int .i64 0, .int .i64 0, .string ⟨#[]⟩, .slice none 0 0]) 4 56 Try.underlying25 hi0 hz0 hz1 hz2 rfl (by decide) _ _ _ rfl HR.out ⟨W3.heap.size, 0, none⟩ 1 1 [.int .i64 x.1, .int .i64 x.2.v, .string x.2.fn, .slice sa x.2.args.length sc] rfl rfl (lit4 W3 _ _ _ _ 35) (by simp [Value.oneCell']) (by unfold maxLen; omega) (by omega) HSZ.out ?_; intro v4 w4 h2 h3 _ _; obtain ⟨pa4, pc4, rfl⟩ := rowB_form h2; have HE : Hid (OI w s (i + 1) (ps ++ [(x, .slice sa x.2.args.length sc)]) (.slice pa4 (ps.length + 1) pc4) w4) := ⟨HO3.out.push (x, .slice sa x.2.args.length sc) _ w4 h2 _ h3, by rw [HF.out, List.map_append, HI.out.ls]; rfl, fun p hp => (List.mem_append.1 hp).elim (HI.out.args p) (fun hp => by simp only [List.mem_singleton] at hp; subst hp; exact HB.out.2)⟩; clear h2 h3 HR HSZ))
        go_roundw
        case rel => exact ⟨i + 1, _, by go_num, by omega, HE.out⟩
        case measure => simp [intOf]; omega
    · have HB : Hid (BindsAt wr (.slice pa ps.length pc) (s.filter notSelf) ∧ Below w.heap.size w wr) := by
        have h1 := HI.out.ls
        rw [List.take_of_length_le (by omega)] at h1
        rw [← h1]
        exact ⟨binds_of_row HI.out.own.row (fun p hp => ArgsAt.keep HI.out.own.bel (Nat.le_refl _) (HI.out.args p hp)), HI.out.own.bel⟩
      go_wp2
      go_ret
      exact ⟨_, rfl, HB.out.1, HB.out.2⟩

end Go.Proofs.Ytblfbmdnkgebdaa

/-
  The document's Match.
-/
namespace Go.Proofs.Ytblfbmdnkgebdaa
open Go.RowKit Go.Maps

/-- What the document's Match answers. -/
def RMatchIs (p t : T) (e : Ending) (W : World) : Prop :=
  (¬ (p.rightW = 0 ∧ t.rightW = 0) ∧ e = .returned (.tuple #[.slice none 0 0, .bool false, .int .i64 1])) ∨
  ((p.rightW = 0 ∧ t.rightW = 0) ∧ dmt p t [] = none ∧ e = .returned (.tuple #[.slice none 0 0, .bool false, .int .i64 0])) ∨
  ((p.rightW = 0 ∧ t.rightW = 0) ∧ ∃ s v, dmt p t [] = some s ∧ e = .returned (.tuple #[v, .bool true, .int .i64 0]) ∧ BindsAt W v (s.filter notSelf))

theorem rright_at (t : T) (st : Value) (w0 W : World) (hb : Below w0.heap.size w0 W) (ht : ArgsAt w0 st t.args) :
    Calls Try.prog 23 #[tval t st] W fun e W' => e = .returned (.int .i64 t.rightW) ∧ Below W.heap.size W W' :=
  rright_any t st W (ArgsAt.keep hb (Nat.le_refl _) ht)

set_option maxRecDepth 100000 in
set_option maxHeartbeats 2000000 in
theorem rmatchd_any (p t : T) (sp st : Value) (w : World) (hp : ArgsAt w sp p.args) (ht : ArgsAt w st t.args) (hps : p.size ≤ 1048576) :
    Calls Try.prog 14 #[tval p sp, tval t st] w fun e W => RMatchIs p t e W ∧ Below w.heap.size w W := by
  obtain ⟨pa, pc, rfl, _, _⟩ := hp.slice
  obtain ⟨ta, tc, rfl, _, _⟩ := ht.slice
  have hb2 := below_box2 w (tbox p (.slice pa p.args.length pc)) (tbox t (.slice ta t.args.length tc))
  obtain ⟨⟨p0, p1, p2⟩, ⟨t0, t1, t2⟩⟩ := tbox2_cells w p (.slice pa p.args.length pc) t (.slice ta t.args.length tc)
  have HB : Hid (Below w.heap.size w (tbox2 w p (.slice pa p.args.length pc) t (.slice ta t.args.length tc))) := hb2
  have HRp : Hid (∀ W, Below w.heap.size w W → Calls Try.prog 23 #[tval p (.slice pa p.args.length pc)] W fun e W' => e = .returned (.int .i64 p.rightW) ∧ Below W.heap.size W W') := fun W h => rright_at p _ w W h hp
  have HRt : Hid (∀ W, Below w.heap.size w W → Calls Try.prog 23 #[tval t (.slice ta t.args.length tc)] W fun e W' => e = .returned (.int .i64 t.rightW) ∧ Below W.heap.size W W') := fun W h => rright_at t _ w W h ht
  have hrp := HRp.out _ hb2
  by_cases h1 : p.rightW = 0
  · have h1' : (p.rightW != 0) = false := by rw [bne_eq_false_iff_eq]; exact h1
    by_cases h2 : t.rightW = 0
    · have h2' : (t.rightW != 0) = false := by rw [bne_eq_false_iff_eq]; exact h2
      have hnn : p.nn ≤ 4000 := (right_zero h1 hps).2
      have hlen := dmt_len p t [] 
      have HMA : Hid (∀ W, Below w.heap.size w W → Calls Try.prog 41 #[.slice none 0 0, tval p (.slice pa p.args.length pc), tval t (.slice ta t.args.length tc)] W fun e W' => Below W.heap.size W W' ∧ ∃ v', e = .returned (.tuple #[v', .bool (dmt p t []).isSome]) ∧ ∀ s', dmt p t [] = some s' →
          Calls Try.prog 42 #[v'] W' fun e W'' => ∃ v, e = .returned v ∧ BindsAt W'' v (s'.filter notSelf) ∧ Below W'.heap.size W' W'') := fun W h => (rmatch_any p t _ _ (.slice none 0 0) [] W (binds_nil W) (ArgsAt.keep h (Nat.le_refl _) hp) (ArgsAt.keep h (Nat.le_refl _) ht) (by simp; omega)).mono (fun e W' h => ⟨h.1, h.2.imp fun v' h2 => ⟨h2.1, fun s' hs' => rown_any s' v' W' (h2.2 s' hs') (by have := hlen s' hs'; simp at this; omega)⟩⟩)
      clear hlen hnn
      rcases hres : dmt p t [] with _ | s1
      · have hn' : (dmt p t []).isSome = false := by rw [hres]; rfl
        rw [hn'] at HMA
        have HM : Hid (∀ W, RMatchIs p t (.returned (.tuple #[.slice none 0 0, .bool false, .int .i64 0])) W) := fun W => .inr (.inl ⟨⟨h1, h2⟩, hres, rfl⟩)
        clear h1 h2 hp ht hps hb2 hres
        go_enter Try.func14, Try.ntmps14
        go_wp2_with (first
          | (go_at_call 41; refine hma.mono ?_; rintro e W3 ⟨hb3, v', rfl, _⟩)
          | (go_at_call 23; refine hrt.mono ?_; rintro e W2 ⟨rfl, hb2'⟩; have c0 := kc hb2' (by have := HB1.out.2; simp at this; omega) a0; have c1 := kc hb2' (by have := HB1.out.2; simp at this; omega) a1; have c2 := kc hb2' (by have := HB1.out.2; simp at this; omega) a2; have d0 := kc hb2' (by have := HB1.out.2; simp at this; omega) b0; have d1 := kc hb2' (by have := HB1.out.2; simp at this; omega) b1; have d2 := kc hb2' (by have := HB1.out.2; simp at this; omega) b2; have HB2 : Hid (Below w.heap.size w W2) := HB1.out.1.trans (hb2'.mono HB1.out.1.size); have hma := HMA.out W2 HB2.out; clear hb2' hrt)
          | (go_at_call 23; refine hrp.mono ?_; rintro e W1 ⟨rfl, hb1⟩; have a0 := kc hb1 (by simp; omega) p0; have a1 := kc hb1 (by simp; omega) p1; have a2 := kc hb1 (by simp; omega) p2; have b0 := kc hb1 (by simp) t0; have b1 := kc hb1 (by simp) t1; have b2 := kc hb1 (by simp) t2; have HB1 : Hid (Below w.heap.size w W1 ∧ (tbox2 w p (.slice pa p.args.length pc) t (.slice ta t.args.length tc)).heap.size ≤ W1.heap.size) := ⟨HB.out.trans (hb1.mono (by simp; omega)), hb1.size⟩; have hrt := HRt.out W1 HB1.out.1; clear hb1 hrp))
        refine bodyPost_ret (v := .tuple #[.slice none 0 0, .bool false, .int .i64 0]) (by simp [results, Try.results14, go_sem]) rfl ?_
        exact ⟨HM.out _, HB2.out.trans (hb3.mono HB2.out.size)⟩
      · have hn' : (dmt p t []).isSome = true := by rw [hres]; rfl
        rw [hn'] at HMA
        have HM : Hid ((p.rightW = 0 ∧ t.rightW = 0) ∧ dmt p t [] = some s1) := ⟨⟨h1, h2⟩, hres⟩
        clear h1 h2 hp ht hps hb2 hres
        go_enter Try.func14, Try.ntmps14
        go_wp2_with (first
          | (go_at_call 42; refine hli.mono ?_; rintro e W4 ⟨v, rfl, k2, k3⟩; have HL : Hid (BindsAt W4 v (s1.filter notSelf) ∧ Below W3.heap.size W3 W4) := ⟨k2, k3⟩; clear k2 k3 hli)
          | (go_at_call 41; refine hma.mono ?_; rintro e W3 ⟨hb3, v', rfl, hk⟩; have hli := hk s1 HM.out.2; have HB3 : Hid (Below w.heap.size w W3) := HB2.out.trans (hb3.mono HB2.out.size); clear hk hma hb3)
          | (go_at_call 23; refine hrt.mono ?_; rintro e W2 ⟨rfl, hb2'⟩; have c0 := kc hb2' (by have := HB1.out.2; simp at this; omega) a0; have c1 := kc hb2' (by have := HB1.out.2; simp at this; omega) a1; have c2 := kc hb2' (by have := HB1.out.2; simp at this; omega) a2; have d0 := kc hb2' (by have := HB1.out.2; simp at this; omega) b0; have d1 := kc hb2' (by have := HB1.out.2; simp at this; omega) b1; have d2 := kc hb2' (by have := HB1.out.2; simp at this; omega) b2; have HB2 : Hid (Below w.heap.size w W2) := HB1.out.1.trans (hb2'.mono HB1.out.1.size); have hma := HMA.out W2 HB2.out; clear hb2' hrt)
          | (go_at_call 23; refine hrp.mono ?_; rintro e W1 ⟨rfl, hb1⟩; have a0 := kc hb1 (by simp; omega) p0; have a1 := kc hb1 (by simp; omega) p1; have a2 := kc hb1 (by simp; omega) p2; have b0 := kc hb1 (by simp) t0; have b1 := kc hb1 (by simp) t1; have b2 := kc hb1 (by simp) t2; have HB1 : Hid (Below w.heap.size w W1 ∧ (tbox2 w p (.slice pa p.args.length pc) t (.slice ta t.args.length tc)).heap.size ≤ W1.heap.size) := ⟨HB.out.trans (hb1.mono (by simp; omega)), hb1.size⟩; have hrt := HRt.out W1 HB1.out.1; clear hb1 hrp))
        refine bodyPost_ret (v := .tuple #[v, .bool true, .int .i64 0]) (by simp [results, Try.results14, go_sem]) rfl ?_
        exact ⟨.inr (.inr ⟨HM.out.1, s1, v, HM.out.2, rfl, HL.out.1⟩), HB3.out.trans (HL.out.2.mono HB3.out.size)⟩
    · have HM : Hid (∀ W, RMatchIs p t (.returned (.tuple #[.slice none 0 0, .bool false, .int .i64 1])) W) := fun W => .inl ⟨fun h => h2 h.2, rfl⟩
      have h2' : (t.rightW != 0) = true := by rw [bne_iff_ne]; exact h2
      clear h1 h2 hp ht hps hb2
      go_enter Try.func14, Try.ntmps14
      go_wp2_with (first
        | (go_at_call 23; refine hrt.mono ?_; rintro e W2 ⟨rfl, hb2'⟩)
        | (go_at_call 23; refine hrp.mono ?_; rintro e W1 ⟨rfl, hb1⟩; have a0 := kc hb1 (by simp; omega) p0; have a1 := kc hb1 (by simp; omega) p1; have a2 := kc hb1 (by simp; omega) p2; have b0 := kc hb1 (by simp) t0; have b1 := kc hb1 (by simp) t1; have b2 := kc hb1 (by simp) t2; have HB1 : Hid (Below w.heap.size w W1 ∧ (tbox2 w p (.slice pa p.args.length pc) t (.slice ta t.args.length tc)).heap.size ≤ W1.heap.size) := ⟨HB.out.trans (hb1.mono (by simp; omega)), hb1.size⟩; have hrt := HRt.out W1 HB1.out.1; clear hb1 hrp))
      refine bodyPost_ret (v := .tuple #[.slice none 0 0, .bool false, .int .i64 1]) (by simp [results, Try.results14, go_sem]) rfl ?_
      exact ⟨HM.out _, HB1.out.1.trans (hb2'.mono HB1.out.1.size)⟩
  · have HM : Hid (∀ W, RMatchIs p t (.returned (.tuple #[.slice none 0 0, .bool false, .int .i64 1])) W) := fun W => .inl ⟨fun h => h1 h.1, rfl⟩
    have h1' : (p.rightW != 0) = true := by rw [bne_iff_ne]; exact h1
    clear h1 hb2 hp ht hps
    go_enter Try.func14, Try.ntmps14
    go_wp2_with (go_at_call 23; refine hrp.mono ?_; rintro e W1 ⟨rfl, hb1⟩)
    refine bodyPost_ret (v := .tuple #[.slice none 0 0, .bool false, .int .i64 1]) (by simp [results, Try.results14, go_sem]) rfl ?_
    exact ⟨HM.out _, HB.out.trans (hb1.mono (by simp; omega))⟩

end Go.Proofs.Ytblfbmdnkgebdaa
