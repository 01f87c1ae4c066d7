/-
  slices.IndexFunc and ContainsFunc over clauses; lits.Tautology.
-/
import Derived.Test.YtgnjgpplelakkaaGreatLB
import Derived.Shelf.Abstract
namespace Go.Proofs.YtgnjgpplelakkaaGreat
open Go.RowKit Go.Shelf

/-- A function that tells of a literal. -/
def LPredAt (W0 : World) (g : Nat) (lb : Array Value) (P : Lt → Bool) (Q : Lt → Prop) : Prop :=
  ∀ (x : Lt) (s r : Value) (W : World), Q x → Below W0.heap.size W0 W → ArgsAt W s x.l.args → ArgsAt W r x.r.args → Calls Tryz.prog g (#[lval x s r] ++ lb) W fun e W' => e = .returned (.bool (P x)) ∧ Below W.heap.size W W'

/-- Where the first one is. -/
def firstI (P : Lt → Bool) : List Lt → Nat → Int
  | [], _ => -1
  | x :: r, i => if P x then i else firstI P r (i + 1)

theorem firstI_any (P : Lt → Bool) : ∀ (l : List Lt) (i : Nat), decide (firstI P l i ≥ 0) = l.any P
  | [], _ => rfl
  | x :: r, i => by
    unfold firstI
    cases h : P x
    · simp only [Bool.false_eq_true, if_false, List.any_cons, h, Bool.false_or]
      exact firstI_any P r (i + 1)
    · simp [h]

theorem firstI_drop (P : Lt → Bool) (l : List Lt) : ∀ i, i ≤ l.length → (∀ j (hj : j < l.length), j < i → P l[j] = false) → firstI P l 0 = firstI P (l.drop i) i := by
  intro i
  induction i with
  | zero => intro _ _; simp
  | succ i ih =>
    intro hi h
    rw [ih (by omega) (fun j hj hji => h j hj (by omega))]
    have e : l.drop i = l[i] :: l.drop (i + 1) := List.drop_eq_getElem_cons (by omega)
    rw [e]
    simp only [firstI, h i (by omega) (by omega), Bool.false_eq_true, if_false]

set_option maxRecDepth 100000 in
set_option maxHeartbeats 2000000 in
theorem index_any (W0 : World) (g : Nat) (lb : Array Value) (P : Lt → Bool) (Q : Lt → Prop) (eg : ∀ args w, (callFunc g args).run Tryz.prog w = .ok (.enter g args) w) (hp : LPredAt W0 g lb P Q) (l : List Lt) (hQ : ∀ x ∈ l, Q x) (v : Value) (w : World) (hw : Below W0.heap.size W0 w) (hl : ClauseAt w v l) :
    Calls Tryz.prog 62 #[v, .func (.func g) #[] lb] w fun e W' => e = .returned (.int .i64 (firstI P l 0)) ∧ Below w.heap.size w W' := by
  obtain ⟨a, c, rfl⟩ := hl.slice
  have hlen := hl.len
  have HL : Hid (ClauseAt w (.slice a l.length c) l) := hl
  have HQ : Hid (∀ x ∈ l, Q x) := hQ
  clear hl hQ
  go_enter Tryz.func62, Tryz.ntmps62
  go_wp2
  go_loopw [8] (fun vi wr => ∃ i : Nat, vi = .int .i64 i ∧ i ≤ l.length ∧ Below w.heap.size w wr ∧ ∀ j (hj : j < l.length), j < i → P l[j] = false) (fun vi _ => l.length - (intOf vi).toNat)
  case atStart => exact ⟨0, rfl, Nat.zero_le _, Below.refl _ _, fun j _ hj => absurd hj (by omega)⟩
  case round =>
    obtain ⟨i, rfl, hi, hb, hall⟩ := hrel
    by_cases hlt : i < l.length
    · obtain ⟨bb, o, sl, sr, rfl, hX⟩ := (HL.out.keep hb).nth hlt
      have hc := hp l[i] sl sr wr (HQ.out _ (List.getElem_mem hlt)) (hw.trans (hb.mono hw.size)) hX.al hX.ar
      have HF : Hid (firstI P l 0 = if P l[i] then (i : Int) else firstI P (l.drop (i + 1)) (i + 1)) := by
        show _ = _
        rw [firstI_drop P l i hi hall, List.drop_eq_getElem_cons hlt]
        rfl
      have HN : Hid (P l[i] = false → ∀ j (hj : j < l.length), j < i + 1 → P l[j] = false) := fun h1 j hj hji => by
        by_cases e : j = i
        · subst e; exact h1
        · exact hall j hj (by omega)
      obtain ⟨x, hx⟩ : ∃ x, l[i] = x := ⟨_, rfl⟩
      rw [hx] at hX HF HN hc
      obtain ⟨c0, c1, c2, c3, c4, c5, c6⟩ : wr.cell? ⟨bb, o + i * 7, none⟩ = some (.bool x.neg) ∧ wr.cell? ⟨bb, o + i * 7 + 1, none⟩ = some (.int .i64 x.l.v) ∧ wr.cell? ⟨bb, o + i * 7 + 2, none⟩ = some (.string x.l.fn) ∧ wr.cell? ⟨bb, o + i * 7 + 3, none⟩ = some sl ∧ wr.cell? ⟨bb, o + i * 7 + 4, none⟩ = some (.int .i64 x.r.v) ∧ wr.cell? ⟨bb, o + i * 7 + 5, none⟩ = some (.string x.r.fn) ∧ wr.cell? ⟨bb, o + i * 7 + 6, none⟩ = some sr := ⟨hX.c0, hX.c1, hX.c2, hX.c3, hX.c4, hX.c5, hX.c6⟩
      obtain ⟨_, _, rfl, _⟩ := hX.al.slice
      obtain ⟨_, _, rfl, _⟩ := hX.ar.slice
      have HB : Hid (Below w.heap.size w wr) := hb
      clear hx hall hX hb
      cases hP : P x
      · rw [hP] at hc
        have HNN : Hid (∀ j (hj : j < l.length), j < i + 1 → P l[j] = false) := HN.out hP
        clear HF HN hP
        go_wp2_with (first | (go_at_fn g; refine hc.mono ?_; rintro e w3 ⟨rfl, hb3⟩))
        go_roundw
        case rel => exact ⟨i + 1, by go_num, by omega, HB.out.trans (hb3.mono HB.out.size), HNN.out⟩
        case measure => simp [intOf]; omega
      · rw [hP] at hc
        have HG : Hid (firstI P l 0 = i) := by show _ = _; rw [HF.out, hP]; rfl
        clear HF HN hP
        go_wp2_with (first | (go_at_fn g; refine hc.mono ?_; rintro e w3 ⟨rfl, hb3⟩))
        go_ret
        exact ⟨ret_i64 HG.out.symm, HB.out.trans (hb3.mono HB.out.size)⟩
    · have HG : Hid (firstI P l 0 = -1) := by
        show _ = _
        rw [firstI_drop P l i hi hall, show i = l.length by omega, List.drop_length]
        rfl
      clear hall
      go_wp2
      go_ret
      exact ⟨ret_i64 HG.out.symm, hb⟩

set_option maxHeartbeats 1000000 in
theorem contains_any (W0 : World) (g : Nat) (lb : Array Value) (P : Lt → Bool) (Q : Lt → Prop) (eg : ∀ args w, (callFunc g args).run Tryz.prog w = .ok (.enter g args) w) (hp : LPredAt W0 g lb P Q) (l : List Lt) (hQ : ∀ x ∈ l, Q x) (v : Value) (w : World) (hw : Below W0.heap.size W0 w) (hl : ClauseAt w v l) :
    Calls Tryz.prog 35 #[v, .func (.func g) #[] lb] w fun e W' => e = .returned (.bool (l.any P)) ∧ Below w.heap.size w W' := by
  have hi := index_any W0 g lb P Q eg hp l hQ v w hw hl
  obtain ⟨a, c, rfl⟩ := hl.slice
  have HE : Hid (decide (firstI P l 0 ≥ 0) = l.any P) := firstI_any P l 0
  generalize firstI P l 0 = z at *
  clear hl hp hw hQ
  go_enter Tryz.func35, Tryz.ntmps35
  go_wp2_with (first | (go_at_call 62; refine hi.mono ?_; rintro e w3 ⟨rfl, hb3⟩))
  go_ret
  exact ⟨ret_bool (by rw [← HE.out]), hb3⟩

theorem eg64 : ∀ args w, (callFunc 36 args).run Tryz.prog w = .ok (.enter 36 args) w := enters_of Tryz.func36 (by kernel_rfl) rfl
theorem eg65 : ∀ args w, (callFunc 37 args).run Tryz.prog w = .ok (.enter 37 args) w := enters_of Tryz.func37 (by kernel_rfl) rfl

set_option maxRecDepth 100000 in
set_option maxHeartbeats 2000000 in
theorem against_any (W0 : World) (B : Nat) (x : Lt) (a b : Value) (hx : LitAt W0 B 0 x a b) : LPredAt W0 37 #[.pointer (some ⟨B, 0, none⟩)] (fun y => y.neg && lsides x y) (fun _ => True) := by
  intro y s r W _ hW hs hr
  show Calls Tryz.prog 37 #[lval y s r, .pointer (some ⟨B, 0, none⟩)] W fun e W' => e = .returned (.bool (y.neg && lsides x y)) ∧ Below W.heap.size W W'
  have hX := hx.keep hW
  have hY := lbox_at W y s r hs hr
  have hb := below_box W (lbox y s r)
  have hX1 := hX.keep hb
  have hss := sides_any x y a b s r _ hX1.al hX1.ar hY.al hY.ar
  have HB : Hid (Below W.heap.size W (W.alloc (lbox y s r))) := hb
  obtain ⟨a0, a1, a2, a3, a4, a5, a6⟩ := hX1.zero
  obtain ⟨b0, b1, b2, b3, b4, b5, b6⟩ := hY.zero
  obtain ⟨_, _, rfl, _⟩ := hX.al.slice
  obtain ⟨_, _, rfl, _⟩ := hX.ar.slice
  obtain ⟨_, _, rfl, _⟩ := hs.slice
  obtain ⟨_, _, rfl, _⟩ := hr.slice
  clear hX hY hb hX1 hs hr hx hW
  generalize lsides x y = p at *
  obtain ⟨n, yl, yr⟩ := y
  simp only at *
  cases n
  · go_enter Tryz.func37, Tryz.ntmps37
    go_wp2
    go_ret
    exact ⟨rfl, HB.out⟩
  · go_enter Tryz.func37, Tryz.ntmps37
    go_wp2_with (first | (go_at_call 38; refine hss.mono ?_; rintro e w3 ⟨rfl, hb3⟩))
    go_ret
    exact ⟨rfl, HB.out.trans (hb3.mono HB.out.size)⟩

/-- Does the literal always hold, or stand beside its own negation? -/
noncomputable def ctautL (c : List Lt) (x : Lt) : Bool := !x.neg && (same x.l x.r || c.any fun y => y.neg && lsides x y)
noncomputable def ctaut (c : List Lt) : Bool := c.any (ctautL c)

set_option maxRecDepth 100000 in
set_option maxHeartbeats 2000000 in
theorem taut1_any (W0 : World) (B : Nat) (c : List Lt) (v : Value) (hc : ClauseAt W0 v c) (hB : W0.cell? ⟨B, 0, none⟩ = some v) (hBl : B < W0.heap.size) : LPredAt W0 36 #[.pointer (some ⟨B, 0, none⟩)] (ctautL c) (fun _ => True) := by
  intro x s r W _ hW hs hr
  show Calls Tryz.prog 36 #[lval x s r, .pointer (some ⟨B, 0, none⟩)] W _
  have hX := lbox_at W x s r hs hr
  have hb := below_box W (lbox x s r)
  have k0 := kc hb (Nat.lt_of_lt_of_le hBl hW.size) (kc hW hBl hB)
  have hcc := (hc.keep hW).keep hb
  have h1 := oneSide_any x s r _ hX.al hX.ar
  have h2 : ∀ W', Below (W.alloc (lbox x s r)).heap.size (W.alloc (lbox x s r)) W' → Calls Tryz.prog 35 #[v, .func (.func 37) #[] #[.pointer (some ⟨W.heap.size, 0, none⟩)]] W' fun e W'' => e = .returned (.bool (c.any fun y => y.neg && lsides x y)) ∧ Below W'.heap.size W' W'' := fun W' hW' => contains_any (W.alloc (lbox x s r)) 37 _ _ _ eg65 (against_any _ _ x s r hX) c (fun _ _ => trivial) v W' hW' (hcc.keep hW')
  have HB : Hid (Below W.heap.size W (W.alloc (lbox x s r))) := hb
  obtain ⟨b0, b1, b2, b3, b4, b5, b6⟩ := hX.zero
  have hlt : B < (W.alloc (lbox x s r)).heap.size := by have := hW.size; simp; omega
  obtain ⟨_, _, rfl, _⟩ := hs.slice
  obtain ⟨_, _, rfl, _⟩ := hr.slice
  obtain ⟨_, _, rfl⟩ := hc.slice
  have HE : Hid (ctautL c x = (!x.neg && (same x.l x.r || c.any fun y => y.neg && lsides x y))) := rfl
  clear hX hb hcc hc hB hBl hW hs hr
  generalize same x.l x.r = p at *
  generalize (c.any fun y => y.neg && lsides x y) = q at *
  obtain ⟨n, xl, xr⟩ := x
  simp only at *
  cases n
  · cases p
    · go_enter Tryz.func36, Tryz.ntmps36
      go_wp2_with (first
        | (go_at_call 35; refine (h2 _ hb3).mono ?_; rintro e w4 ⟨rfl, hb4⟩)
        | (go_at_call 39; refine h1.mono ?_; rintro e w3 ⟨rfl, hb3⟩; have k1 := kc hb3 hlt k0))
      go_ret
      exact ⟨ret_bool (by rw [HE.out]; simp), HB.out.trans ((hb3.trans (hb4.mono hb3.size)).mono HB.out.size)⟩
    · go_enter Tryz.func36, Tryz.ntmps36
      go_wp2_with (first
        | (go_at_call 39; refine h1.mono ?_; rintro e w3 ⟨rfl, hb3⟩))
      go_ret
      exact ⟨ret_bool (by rw [HE.out]; simp), HB.out.trans (hb3.mono HB.out.size)⟩
  · go_enter Tryz.func36, Tryz.ntmps36
    go_wp2
    go_ret
    exact ⟨ret_bool (by rw [HE.out]; simp), HB.out⟩

set_option maxRecDepth 100000 in
set_option maxHeartbeats 2000000 in
theorem taut_any (c : List Lt) (v : Value) (w : World) (hc : ClauseAt w v c) :
    Calls Tryz.prog 16 #[v] w fun e W' => e = .returned (.bool (ctaut c)) ∧ Below w.heap.size w W' := by
  obtain ⟨a, n, rfl⟩ := hc.slice
  have hb := below_box w (.cells #[.slice a c.length n] 24)
  have q1 : (w.alloc (.cells #[.slice a c.length n] 24)).heap[w.heap.size]? = some (.cells [Value.slice a c.length n].toArray 24 (0, 0)) := (MapKept.heap_alloc w (.cells #[.slice a c.length n] 24)).1
  have k0 : (w.alloc (.cells #[.slice a c.length n] 24)).cell? ⟨w.heap.size, 0, none⟩ = some (.slice a c.length n) := by rw [cell_of_row _ _ _ _ 24 (0, 0) q1]; rfl
  have h2 := contains_any (w.alloc (.cells #[.slice a c.length n] 24)) 36 #[.pointer (some ⟨w.heap.size, 0, none⟩)] (ctautL c) (fun _ => True) eg64 (taut1_any _ w.heap.size c _ (hc.keep hb) k0 (by simp)) c (fun _ _ => trivial) _ _ (Below.refl _ _) (hc.keep hb)
  have HB : Hid (Below w.heap.size w (w.alloc (.cells #[.slice a c.length n] 24))) := hb
  clear hb q1 hc
  go_enter Tryz.func16, Tryz.ntmps16
  go_wp2_with (first | (go_at_call 35; refine h2.mono ?_; rintro e w3 ⟨rfl, hb3⟩))
  go_ret
  exact ⟨rfl, HB.out.trans (hb3.mono HB.out.size)⟩

end Go.Proofs.YtgnjgpplelakkaaGreat
