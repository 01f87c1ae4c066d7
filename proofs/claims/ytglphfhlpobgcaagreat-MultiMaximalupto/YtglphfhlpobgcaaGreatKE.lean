import Derived.Test.YtglphfhlpobgcaaGreatKC
import Derived.Test.YtglphfhlpobgcaaGreatLM
import Derived.StringKeys

namespace Go.Proofs.YtglphfhlpobgcaaGreat
open Go.RowKit Go.Maps
set_option maxRecDepth 100000 in
theorem keyed9 : Keyed Tryz.prog 9 := string_keyed Tryz.underlying9
set_option maxRecDepth 100000 in
theorem key9 {s : ByteArray} (h : s.size ≤ maxLen) : keyOf Tryz.prog 9 (.string s) = some (.string s.data.toList) := WideMaps.keyOf_string_mk Tryz.underlying9 h
theorem zero3 (w : World) : (zeroValue 3).run Tryz.prog w = .ok (.int .i64 0) w := Tryz.zeroValue3 w
def pmL (l : List ByteArray) : Value → Option Value
  | .string s => (ixL l s).map fun (j : Nat) => Value.int .i64 (j : Int)
  | _ => none
theorem ixL_snoc (l : List ByteArray) (s x : ByteArray) : ixL (l ++ [s]) x = match ixL l x with
    | some i => some i
    | none => if s = x then some l.length else none := by
  unfold ixL
  rw [List.findIdx?_append]
  cases h : List.findIdx? (fun y => decide (y = x)) l with
  | some i => simp
  | none =>
    by_cases e : s = x
    · simp [List.findIdx?_cons, e]
    · simp [List.findIdx?_cons, e]
theorem ixL_none {l : List ByteArray} {x : ByteArray} : ixL l x = none ↔ x ∉ l := by
  unfold ixL
  rw [List.findIdx?_eq_none_iff]
  constructor
  · intro h hx
    have := h x hx
    simp at this
  · intro h y hy
    simp only [decide_eq_false_iff_not]
    exact fun e => h (e ▸ hy)
theorem pmL_old {l : List ByteArray} {s : ByteArray} (h : s ∈ l) : pmL (l ++ [s]) = pmL l := by
  funext v
  cases v with
  | string x =>
    simp only [pmL, ixL_snoc]
    cases hi : ixL l x with
    | some i => rfl
    | none =>
      have : ¬ s = x := fun e => absurd (e ▸ h) (ixL_none.1 hi)
      simp [this]
  | _ => rfl
theorem pmL_new {l : List ByteArray} {s : ByteArray} (h : s ∉ l) : upd (pmL l) (.string s) (.int .i64 (l.length : Int)) = pmL (l ++ [s]) := by
  funext v
  unfold upd
  by_cases e : v = .string s
  · subst e
    rw [if_pos rfl]
    simp only [pmL, ixL_snoc, ixL_none.2 h, if_true, Option.map_some]
  · rw [if_neg e]
    cases v with
    | string x =>
      simp only [pmL, ixL_snoc]
      have : ¬ s = x := fun h => e (by rw [h])
      cases hi : ixL l x with
      | some i => rfl
      | none => simp [this]
    | _ => rfl
open Classical in
noncomputable def dnR : List ByteArray → Nat
  | [] => 0
  | x :: r => dnR r + (if x ∈ r then 0 else 1)
noncomputable def dn (l : List ByteArray) : Nat := dnR l.reverse
open Classical in
theorem dn_snoc (l : List ByteArray) (x : ByteArray) : dn (l ++ [x]) = dn l + (if x ∈ l then 0 else 1) := by
  simp [dn, dnR]
theorem dnR_le : ∀ l : List ByteArray, dnR l ≤ l.length
  | [] => Nat.le_refl _
  | x :: r => by
    have := dnR_le r
    simp only [dnR, List.length_cons]
    split <;> omega
theorem dnR_all : ∀ l : List ByteArray, dnR l = l.length ↔ l.Nodup
  | [] => by simp [dnR]
  | x :: r => by
    have h1 := dnR_le r
    have h2 := dnR_all r
    simp only [dnR, List.length_cons, List.nodup_cons]
    by_cases h : x ∈ r
    · rw [if_pos h]
      exact ⟨fun e => by omega, fun e => absurd h e.1⟩
    · rw [if_neg h]
      exact ⟨fun e => ⟨h, h2.1 (by omega)⟩, fun e => by have := h2.2 e.2; omega⟩
theorem dn_le (l : List ByteArray) : dn l ≤ l.length := by
  have := dnR_le l.reverse
  simpa [dn] using this
theorem dn_all (l : List ByteArray) : dn l = l.length ↔ l.Nodup := by
  have h1 := dnR_all l.reverse
  rw [List.length_reverse] at h1
  have h2 : l.reverse.Nodup ↔ l.Nodup := by
    unfold List.Nodup
    rw [List.pairwise_reverse]
    constructor <;> intro h <;> exact h.imp (fun e => Ne.symm e)
  exact h1.trans h2
theorem run_makeMapN (t k e : TypeId) (ht : Tryz.prog.underlying t = some (.map k e)) (n : Int) (w : World) : (Instr.makeMap t (some (.int .i64 n))).run Tryz.prog w = .ok (.map (some w.heap.size)) (w.alloc (.map #[] 0)) := by
  simp [Instr.makeMap, run_underlying ht, asInt, asIntOf, Result.andThen]
set_option maxRecDepth 100000 in
set_option maxHeartbeats 2000000 in
theorem places_any (l : List ByteArray) (v : Value) (w : World) (hl : RowAt .string w v l) (hs : ∀ x ∈ l, x.size ≤ maxLen) :
    Calls Tryz.prog 63 #[v] w fun e w' => e = .returned (.map (some w.heap.size)) ∧ MapIs w' 9 w.heap.size (pmL l) (dn l) ∧ Below w.heap.size w w' := by
  obtain ⟨a, c, rfl, hc, hm⟩ := hl.slice
  have hmm := fun n w => run_makeMapN 99 9 3 Tryz.underlying99 n w
  have HL : Hid (RowAt .string w (.slice a l.length c) l) := hl
  have HS : Hid (∀ x ∈ l, x.size ≤ maxLen) := hs
  have HM : Hid (MapIs (w.alloc (.map #[] 0)) 9 w.heap.size (fun _ => none) 0) := MapIs.made w 9
  have HB : Hid (Below w.heap.size w (w.alloc (.map #[] 0))) := below_box w _
  clear hl hs
  go_enter Tryz.func63, Tryz.ntmps63
  go_wp2
  go_loopw [13] (fun vi wr => ∃ i : Nat, vi = .int .i64 i ∧ i ≤ l.length ∧ Hid (MapIs wr 9 w.heap.size (pmL (l.take i)) (dn (l.take i)) ∧ Below w.heap.size w wr)) (fun vi _ => l.length - (intOf vi).toNat)
  case atStart =>
    refine ⟨0, rfl, Nat.zero_le _, ?_, HB.out⟩
    have e : pmL (l.take 0) = fun _ => none := by
      funext v
      cases v <;> rfl
    rw [e]
    exact HM.out
  case round =>
    obtain ⟨i, rfl, hi, HI⟩ := hrel
    by_cases hlt : i < l.length
    · obtain ⟨b, o, rfl, hbl, hcell⟩ := (HL.out.keep HI.out.2 (Nat.le_refl _)).nth hlt
      have ht : l.take (i + 1) = l.take i ++ [l[i]] := List.take_succ_eq_append_getElem hlt
      have hli : (l.take i).length = i := by simp; omega
      have hk := key9 (HS.out l[i] (List.getElem_mem hlt))
      by_cases e : l[i] ∈ l.take i
      · obtain ⟨j, hj⟩ : ∃ j, ixL (l.take i) l[i] = some j := by
          cases h : ixL (l.take i) l[i] with
          | some j => exact ⟨j, rfl⟩
          | none => exact absurd e (ixL_none.1 h)
        obtain ⟨hl1, _⟩ := (HI.out.1.look keyed9 Tryz.underlying99 (zero3 wr) hk).1 (.int .i64 (j : Int)) (by simp [pmL, hj])
        have HI2 : Hid (MapIs wr 9 w.heap.size (pmL (l.take (i + 1))) (dn (l.take (i + 1))) ∧ Below w.heap.size w wr) := by
          refine ⟨?_, HI.out.2⟩
          rw [ht, pmL_old e, dn_snoc, if_pos e]
          exact HI.out.1
        clear hj ht hli hk e
        go_wp2
        go_roundw
        case rel => exact ⟨i + 1, by go_num, by omega, HI2⟩
        case measure => simp [intOf]; omega
      · have hno : pmL (l.take i) (.string l[i]) = none := by simp [pmL, ixL_none.2 e]
        obtain ⟨hl1, _⟩ := (HI.out.1.look keyed9 Tryz.underlying99 (zero3 wr) hk).2 hno
        have hdn := dn_le (l.take i)
        obtain ⟨W2, hrun, hM2, hg2⟩ := HI.out.1.put keyed9 Tryz.underlying99 (by unfold maxLen; omega) hk (.int .i64 (i : Int))
        have HI2 : Hid (MapIs W2 9 w.heap.size (pmL (l.take (i + 1))) (dn (l.take (i + 1))) ∧ Below w.heap.size w W2) := by
          rw [hno] at hM2
          have hu := pmL_new e
          rw [hli] at hu
          rw [hu] at hM2
          refine ⟨?_, HI.out.2.trans ((Only.of_grown (B := [w.heap.size]) hg2 (fun r e => by cases e; simp)).below HI.out.2.size (by simp))⟩
          rw [ht, dn_snoc, if_neg e]
          exact hM2
        clear hno ht hli hk e hdn hM2 hg2
        go_wp2_with (first | (refine wpList_mapUpdate_run rfl 99 _ _ _ rfl (.map (some w.heap.size)) (.string l[i]) (.int .i64 (i : Int)) rfl rfl rfl hrun ?_))
        go_roundw
        case rel => exact ⟨i + 1, by go_num, by omega, HI2⟩
        case measure => simp [intOf]; omega
    · have HI2 : Hid (MapIs wr 9 w.heap.size (pmL l) (dn l) ∧ Below w.heap.size w wr) := by
        have := HI.out
        rwa [List.take_of_length_le (by omega)] at this
      go_wp2
      go_ret
      exact ⟨rfl, HI2.out⟩
end Go.Proofs.YtglphfhlpobgcaaGreat

namespace Go.Proofs.YtglphfhlpobgcaaGreat
open Go.RowKit Go.Maps
def Sg.Ok (g : Sg) : Prop := g.ns.length ≤ 200 ∧ g.ws.length ≤ g.ns.length ∧ (∀ x ∈ g.ns, badN x = false) ∧ (∀ k ∈ g.ws, badW k = false) ∧ g.ns.Nodup
open Classical in
noncomputable def Sg.ok (g : Sg) : Bool := decide g.Ok
theorem ok_iff {g : Sg} : g.ok = true ↔ g.Ok := by simp [Sg.ok]
theorem ok_no {g : Sg} : g.ok = false ↔ ¬ g.Ok := by simp [Sg.ok]
noncomputable def Sg.okW (g : Sg) : Int := if g.ok then 0 else 1
theorem okW_no {g : Sg} (h : ¬ g.Ok) : g.okW = 1 := by unfold Sg.okW; rw [ok_no.2 h]; rfl
theorem okW_yes {g : Sg} (h : g.Ok) : g.okW = 0 := by unfold Sg.okW; rw [ok_iff.2 h]; rfl
set_option maxRecDepth 100000 in
set_option maxHeartbeats 2000000 in
theorem kright_any (g : Sg) (vn vw : Value) (w : World) (hg : SgAt w g vn vw) :
    Calls Tryz.prog 31 #[gval vn vw] w fun e w' => e = .returned (.int .i64 g.okW) ∧ Below w.heap.size w w' := by
  obtain ⟨an, cn, rfl, hn1, hn2⟩ := hg.ns.slice
  obtain ⟨aw, cw, rfl, hw1, hw2⟩ := hg.ws.slice
  obtain ⟨W1, hW1⟩ : ∃ W1, w.alloc (.cells #[.slice an g.ns.length cn, .slice aw g.ws.length cw] 38) = W1 := ⟨_, rfl⟩
  have hb : Below w.heap.size w W1 := by rw [← hW1]; exact below_box w _
  obtain ⟨t0, t1⟩ := box2_cells w (.slice an g.ns.length cn) (.slice aw g.ws.length cw) 38
  rw [hW1] at t0 t1
  have hsz : w.heap.size < W1.heap.size := by rw [← hW1]; simp
  have HB : Hid (Below w.heap.size w W1 ∧ SgAt W1 g (.slice an g.ns.length cn) (.slice aw g.ws.length cw)) := ⟨hb, hg.keep hb (Nat.le_refl _)⟩
  have hcN := containsN_any g.ns _ W1 HB.out.2.ns
  have hcW := containsW_any g.ws _ W1 HB.out.2.ws
  have hcP := places_any g.ns _ W1.drew (HB.out.2.ns.keep (Below.refl _ W1).drew (Nat.le_refl _)) HB.out.2.sz
  clear hg hb
  by_cases h1 : 200 < g.ns.length
  · have HP : Hid (g.okW = 1) := okW_no fun h => by have := h.1; omega
    have e1 : decide ((200 : Int) < (g.ns.length : Int)) = true := decide_eq_true (by omega)
    clear hcN hcW hcP
    go_enter Tryz.func31, Tryz.ntmps31
    go_wp2
    go_ret
    exact ⟨ret_i64 HP.out.symm, HB.out.1⟩
  have e1 : decide ((200 : Int) < (g.ns.length : Int)) = false := decide_eq_false (by omega)
  by_cases h2 : g.ns.length < g.ws.length
  · have HP : Hid (g.okW = 1) := okW_no fun h => by have := h.2.1; omega
    have e2 : decide ((g.ns.length : Int) < (g.ws.length : Int)) = true := decide_eq_true (by omega)
    clear hcN hcW hcP
    go_enter Tryz.func31, Tryz.ntmps31
    try rw [hW1]
    go_wp2
    go_ret
    exact ⟨ret_i64 HP.out.symm, HB.out.1⟩
  have e2 : decide ((g.ns.length : Int) < (g.ws.length : Int)) = false := decide_eq_false (by omega)
  cases h3 : g.ns.any badN
  case true =>
    rw [h3] at hcN
    have HP : Hid (g.okW = 1) := okW_no fun h => by
      rw [List.any_eq_true] at h3
      obtain ⟨x, hx, hbx⟩ := h3
      rw [h.2.2.1 x hx] at hbx
      cases hbx
    clear hcW hcP h3
    go_enter Tryz.func31, Tryz.ntmps31
    try rw [hW1]
    go_wp2_with (first | (go_at_call 59; refine hcN.mono ?_; rintro e w3 ⟨rfl, hw3⟩; have hw4 := hw3.symm; clear hw3; subst hw4))
    go_ret
    exact ⟨ret_i64 HP.out.symm, HB.out.1⟩
  rw [h3] at hcN
  cases h4 : g.ws.any badW
  case true =>
    rw [h4] at hcW
    have HP : Hid (g.okW = 1) := okW_no fun h => by
      rw [List.any_eq_true] at h4
      obtain ⟨x, hx, hbx⟩ := h4
      rw [h.2.2.2.1 x hx] at hbx
      cases hbx
    clear hcP h3 h4
    go_enter Tryz.func31, Tryz.ntmps31
    try rw [hW1]
    go_wp2_with (first | (go_at_call 59; refine hcN.mono ?_; rintro e w3 ⟨rfl, hw3⟩; have hw4 := hw3.symm; clear hw3; subst hw4) | (go_at_call 61; refine hcW.mono ?_; rintro e w3 ⟨rfl, hw3⟩; have hw4 := hw3.symm; clear hw3; subst hw4))
    go_ret
    exact ⟨ret_i64 HP.out.symm, HB.out.1⟩
  rw [h4] at hcW
  have hok : dn g.ns = g.ns.length → g.Ok := fun h => ⟨by omega, by omega, fun x hx => by
      have := List.any_eq_false.1 h3 x hx
      simpa using this, fun x hx => by
      have := List.any_eq_false.1 h4 x hx
      simpa using this, (dn_all g.ns).1 h⟩
  have hdl := dn_le g.ns
  have HE : Hid (g.okW = if dn g.ns < g.ns.length then 1 else 0) := by
    show _ = _
    by_cases h : dn g.ns < g.ns.length
    · rw [if_pos h]
      exact okW_no fun k => by have := (dn_all g.ns).2 k.2.2.2.2; omega
    · rw [if_neg h]
      exact okW_yes (hok (by omega))
  clear hok h3 h4
  have t0d : W1.drew.cell? ⟨w.heap.size, 0, none⟩ = some (.slice an g.ns.length cn) := t0
  generalize g.ns.length = ln at *
  generalize dn g.ns = ld at *
  go_enter Tryz.func31, Tryz.ntmps31
  try rw [hW1]
  go_wp2_with (first | (go_at_call 59; refine hcN.mono ?_; rintro e w3 ⟨rfl, hw3⟩; have hw4 := hw3.symm; clear hw3; subst hw4) | (go_at_call 61; refine hcW.mono ?_; rintro e w3 ⟨rfl, hw3⟩; have hw4 := hw3.symm; clear hw3; subst hw4))
  clear hcN hcW
  go_region_with (first
    | (go_at_call 63; refine hcP.mono ?_; rintro e W3 ⟨rfl, hM3, hb3⟩; have K3 : W3.cell? ⟨w.heap.size, 0, none⟩ = some (.slice an ln cn) := kc hb3 hsz t0d; have hln3 : (Builtin.len_ #[99] 3 #[.map (some W1.heap.size)]).run Tryz.prog W3 = .ok (.int .i64 ld) W3 := hM3.len Tryz.underlying99 3; have HB3 : Hid (Below W1.heap.size W1.drew W3) := hb3; clear hM3 hb3))
  all_goals
    by_cases h5 : ld < ln
    · have e5 : decide ((ld : Int) < (ln : Int)) = true := decide_eq_true (by omega)
      go_wp2
      all_goals go_ret
      all_goals exact ⟨ret_i64 (by rw [HE.out, if_pos h5]), HB.out.1.trans (((Below.refl _ W1).drew.trans HB3.out).mono (by omega))⟩
    · have e5 : decide ((ld : Int) < (ln : Int)) = false := decide_eq_false (by omega)
      go_wp2
      all_goals go_ret
      all_goals exact ⟨ret_i64 (by rw [HE.out, if_neg h5]), HB.out.1.trans (((Below.refl _ W1).drew.trans HB3.out).mono (by omega))⟩
end Go.Proofs.YtglphfhlpobgcaaGreat
