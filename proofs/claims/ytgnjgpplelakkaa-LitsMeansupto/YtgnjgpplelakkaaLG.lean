/-
  The document's Size and Right of clauses.
-/
import Derived.Test.YtgnjgpplelakkaaLB
namespace Go.Proofs.Ytgnjgpplelakkaa
open Go.RowKit

def csize (c : List Lt) : Int := (c.map fun x => x.l.size + x.r.size).sum
/-- Of the first k. -/
def cupto (c : List Lt) (k : Nat) : Int := csize (c.take k)
theorem cupto_succ (c : List Lt) (k : Nat) (h : k < c.length) : cupto c (k + 1) = cupto c k + (c[k].l.size + c[k].r.size) := by
  unfold cupto csize
  rw [List.take_succ_eq_append_getElem h]
  simp only [List.map_append, List.sum_append, List.map_cons, List.map_nil, List.sum_cons, List.sum_nil, Int.add_zero]
theorem cupto_all (c : List Lt) (k : Nat) (h : c.length ≤ k) : cupto c k = csize c := by
  unfold cupto
  rw [List.take_of_length_le h]
theorem cstep (c : List Lt) (k : Nat) (h : k < c.length) : wrap64 (wrap64 (wrap64 (cupto c k) + wrap64 c[k].l.size) + wrap64 c[k].r.size) = wrap64 (cupto c (k + 1)) := by
  rw [cupto_succ c k h]
  simp only [wrap64]
  omega

set_option maxRecDepth 100000 in
set_option maxHeartbeats 2000000 in
theorem rcsize_any (l : List Lt) (v : Value) (w : World) (hc : ClauseAt w v l) :
    Calls Try.prog 11 #[v] w fun e w' => e = .returned (.int .i64 (wrap64 (csize l))) ∧ Below w.heap.size w w' := by
  obtain ⟨a, c, rfl⟩ := hc.slice
  have hlen := hc.len
  have HC : Hid (ClauseAt w (.slice a l.length c) l) := hc
  clear hc
  go_enter Try.func11, Try.ntmps11
  go_wp2
  go_loopw [3, 4] (fun vn vi wr => ∃ i : Nat, vi = .int .i64 i ∧ vn = .int .i64 (wrap64 (cupto l i)) ∧ i ≤ l.length ∧ Below w.heap.size w wr) (fun _ vi _ => l.length - (intOf vi).toNat)
  case atStart => exact ⟨0, rfl, by simp [cupto, csize, wrap64], Nat.zero_le _, Below.refl _ _⟩
  case round =>
    obtain ⟨i, rfl, rfl, hi, hb⟩ := hrel
    by_cases hlt : i < l.length
    · obtain ⟨bb, o, sl, sr, rfl, hX⟩ := (HC.out.keep hb).nth hlt
      have HS : Hid (wrap64 (wrap64 (wrap64 (cupto l i) + wrap64 l[i].l.size) + wrap64 l[i].r.size) = wrap64 (cupto l (i + 1))) := cstep l i hlt
      obtain ⟨x, hx⟩ : ∃ x, l[i] = x := ⟨_, rfl⟩
      rw [hx] at hX HS
      clear hx
      have hc40 : ∀ (t : T) (s : Value), ArgsAt wr s t.args → ∀ W, Below wr.heap.size wr W → Calls Try.prog 40 #[tval t s] W fun e w' => e = .returned (.int .i64 (wrap64 t.size)) ∧ Below W.heap.size W w' := fun t s h W hW => rsize_any t _ W (ArgsAt.keep hW (Nat.le_refl _) h)
      have hal := hX.al
      have har := hX.ar
      have f1 := fun p => cell_far hX.lt hX.c1 p
      have f2 := fun p => cell_far hX.lt hX.c2 p
      have f3 := fun p => cell_far hX.lt hX.c3 p
      have f4 := fun p => cell_far hX.lt hX.c4 p
      have f5 := fun p => cell_far hX.lt hX.c5 p
      have f6 := fun p => cell_far hX.lt hX.c6 p
      have i0 : (i : Int) < (l.length : Int) := by omega
      have i1 : (0 : Int) ≤ (i : Int) := by omega
      have HB : Hid (Below w.heap.size w wr) := hb
      obtain ⟨_, _, rfl, _⟩ := hX.al.slice
      obtain ⟨_, _, rfl, _⟩ := hX.ar.slice
      clear hX hb
      go_wp2
      refine wp_region_far (by kernel_rfl) ?_
      repeat (first | go_big_quiet_step (exact calls_far (hc40 _ _ (by first | exact hal | exact har)) _) | quiet_step (exact calls_far (hc40 _ _ (by first | exact hal | exact har)) _))
      refine wpQuiet_nil ?_
      intro _ hw'
      obtain ⟨pf, rfl⟩ := hw'
      go_wp2
      go_roundw
      case rel => exact ⟨i + 1, by go_num, by rw [← HS.out], by omega, HB.out.trans ((below_far _ pf).mono HB.out.size)⟩
      case measure => simp [intOf]; omega
    · have HE : Hid (cupto l i = csize l) := cupto_all l i (by omega)
      go_wp2
      go_ret
      exact ⟨ret_i64 (by rw [HE.out]), hb⟩

/-- The first error of terms. -/
def fe : List T → Int
  | [] => 0
  | t :: r => if t.rightW = 0 then fe r else t.rightW
def sidesOf (c : List Lt) : List T := c.flatMap fun x => [x.l, x.r]
/-- What Right says of a clause. -/
def crightW (c : List Lt) : Int := if 60 < c.length then 3 else if fe (sidesOf c) ≠ 0 then fe (sidesOf c) else if 4000 < wrap64 (csize c) then 3 else 0

theorem fe_zero : ∀ {l : List T}, fe l = 0 ↔ ∀ t ∈ l, t.rightW = 0
  | [] => by simp [fe]
  | t :: r => by
    unfold fe
    by_cases h : t.rightW = 0
    · rw [if_pos h, fe_zero]
      simp [h]
    · rw [if_neg h]
      simp [h]

theorem fe_drop (c : List Lt) : ∀ i, i ≤ c.length → (∀ j (hj : j < c.length), j < i → c[j].l.rightW = 0 ∧ c[j].r.rightW = 0) → fe (sidesOf c) = fe (sidesOf (c.drop i)) := by
  intro i
  induction i with
  | zero => intro _ _; simp
  | succ i ih =>
    intro hi h
    rw [ih (by omega) (fun j hj hji => h j hj (by omega))]
    have e : c.drop i = c[i] :: c.drop (i + 1) := List.drop_eq_getElem_cons (by omega)
    obtain ⟨h1, h2⟩ := h i (by omega) (by omega)
    rw [e]
    unfold sidesOf
    rw [List.flatMap_cons]
    simp only [List.cons_append, List.nil_append, fe, h1, h2, if_true]

theorem fe_first (c : List Lt) (i : Nat) (hi : i < c.length) (h : ∀ j (hj : j < c.length), j < i → c[j].l.rightW = 0 ∧ c[j].r.rightW = 0) : (c[i].l.rightW ≠ 0 → fe (sidesOf c) = c[i].l.rightW) ∧ (c[i].l.rightW = 0 → c[i].r.rightW ≠ 0 → fe (sidesOf c) = c[i].r.rightW) := by
  rw [fe_drop c i (by omega) h]
  have e : c.drop i = c[i] :: c.drop (i + 1) := List.drop_eq_getElem_cons (by omega)
  rw [e]
  unfold sidesOf
  rw [List.flatMap_cons]
  refine ⟨fun h1 => ?_, fun h1 h2 => ?_⟩
  · simp only [List.cons_append, List.nil_append, fe, h1, if_false]
  · simp only [List.cons_append, List.nil_append, fe, h1, h2, if_true, if_false]

set_option maxRecDepth 100000 in
set_option maxHeartbeats 4000000 in
theorem rcright_any (l : List Lt) (v : Value) (w : World) (hc : ClauseAt w v l) :
    Calls Try.prog 9 #[v] w fun e w' => e = .returned (.int .i64 (crightW l)) ∧ Below w.heap.size w w' := by
  obtain ⟨a, c, rfl⟩ := hc.slice
  have hlen := hc.len
  have HC : Hid (ClauseAt w (.slice a l.length c) l) := hc
  clear hc
  by_cases h60 : 60 < l.length
  · have HE : Hid (crightW l = 3) := by show _ = _; unfold crightW; rw [if_pos h60]
    go_enter Try.func9, Try.ntmps9
    go_wp2
    all_goals first | (exfalso; omega) | skip
    go_ret
    exact ⟨ret_i64 HE.out.symm, Below.refl _ _⟩
  · have HE : Hid (crightW l = if fe (sidesOf l) ≠ 0 then fe (sidesOf l) else if 4000 < wrap64 (csize l) then 3 else 0) := by show _ = _; unfold crightW; rw [if_neg h60]
    go_enter Try.func9, Try.ntmps9
    go_wp2
    all_goals first | (exfalso; omega) | skip
    go_loopw [3] (fun vi wr => ∃ i : Nat, vi = .int .i64 i ∧ i ≤ l.length ∧ Below w.heap.size w wr ∧ ∀ j (hj : j < l.length), j < i → l[j].l.rightW = 0 ∧ l[j].r.rightW = 0) (fun vi _ => l.length - (intOf vi).toNat)
    case atStart => exact ⟨0, rfl, Nat.zero_le _, Below.refl _ _, fun j _ hj => absurd hj (by omega)⟩
    case round =>
      obtain ⟨i, rfl, hi, hb, hall⟩ := hrel
      by_cases hlt : i < l.length
      · obtain ⟨bb, o, sl, sr, rfl, hX⟩ := (HC.out.keep hb).nth hlt
        have HF : Hid ((l[i].l.rightW ≠ 0 → fe (sidesOf l) = l[i].l.rightW) ∧ (l[i].l.rightW = 0 → l[i].r.rightW ≠ 0 → fe (sidesOf l) = l[i].r.rightW)) := fe_first l i hlt hall
        have HN : Hid (l[i].l.rightW = 0 → l[i].r.rightW = 0 → ∀ j (hj : j < l.length), j < i + 1 → l[j].l.rightW = 0 ∧ l[j].r.rightW = 0) := fun h1 h2 j hj hji => by
          by_cases e : j = i
          · subst e; exact ⟨h1, h2⟩
          · exact hall j hj (by omega)
        obtain ⟨x, hx⟩ : ∃ x, l[i] = x := ⟨_, rfl⟩
        rw [hx] at hX HF HN
        clear hx hall
        have hcl := rright_any x.l sl wr hX.al
        have hcr : ∀ W, Below wr.heap.size wr W → Calls Try.prog 38 #[tval x.r sr] W fun e w' => e = .returned (.int .i64 x.r.rightW) ∧ Below W.heap.size W w' := fun W hW => rright_any x.r _ W (ArgsAt.keep hW (Nat.le_refl _) hX.ar)
        have HL : Hid (LitAt wr bb (o + i * 7) x sl sr) := hX
        have HB : Hid (Below w.heap.size w wr) := hb
        obtain ⟨c0, c1, c2, c3, c4, c5, c6⟩ : wr.cell? ⟨bb, o + i * 7, none⟩ = some (.bool x.neg) ∧ wr.cell? ⟨bb, o + i * 7 + 1, none⟩ = some (.int .i64 x.l.v) ∧ wr.cell? ⟨bb, o + i * 7 + 2, none⟩ = some (.string x.l.fn) ∧ wr.cell? ⟨bb, o + i * 7 + 3, none⟩ = some sl ∧ wr.cell? ⟨bb, o + i * 7 + 4, none⟩ = some (.int .i64 x.r.v) ∧ wr.cell? ⟨bb, o + i * 7 + 5, none⟩ = some (.string x.r.fn) ∧ wr.cell? ⟨bb, o + i * 7 + 6, none⟩ = some sr := ⟨hX.c0, hX.c1, hX.c2, hX.c3, hX.c4, hX.c5, hX.c6⟩
        have hlt' := hX.lt
        obtain ⟨_, _, rfl, _⟩ := hX.al.slice
        obtain ⟨_, _, rfl, _⟩ := hX.ar.slice
        clear hX hb
        generalize x.l.rightW = p at *
        generalize x.r.rightW = q at *
        by_cases hp : p = 0
        · have hpb : (p != 0) = false := by rw [bne_eq_false_iff_eq]; exact hp
          by_cases hq : q = 0
          · have hqb : (q != 0) = false := by rw [bne_eq_false_iff_eq]; exact hq
            have HNN : Hid (∀ j (hj : j < l.length), j < i + 1 → l[j].l.rightW = 0 ∧ l[j].r.rightW = 0) := HN.out hp hq
            clear HF HN hp hq
            go_wp2_with (first
              | (go_at_call 38; refine (hcr W1 H1).mono ?_; rintro e W2 ⟨rfl, H2⟩)
              | (go_at_call 38; refine hcl.mono ?_; rintro e W1 ⟨rfl, H1⟩; have k4 := kc H1 hlt' c4; have k5 := kc H1 hlt' c5; have k6 := kc H1 hlt' c6))
            go_roundw
            case rel => exact ⟨i + 1, by go_num, by omega, HB.out.trans ((H1.trans (H2.mono H1.size)).mono HB.out.size), HNN.out⟩
            case measure => simp [intOf]; omega
          · have hqb : (q != 0) = true := by rw [bne_iff_ne]; exact hq
            have HG : Hid (crightW l = q) := by
              have h1 := HF.out.2 hp hq
              show _ = _
              rw [HE.out, h1, if_pos hq]
            clear HF HN hp hq HE
            go_wp2_with (first
              | (go_at_call 38; refine (hcr W1 H1).mono ?_; rintro e W2 ⟨rfl, H2⟩)
              | (go_at_call 38; refine hcl.mono ?_; rintro e W1 ⟨rfl, H1⟩; have k4 := kc H1 hlt' c4; have k5 := kc H1 hlt' c5; have k6 := kc H1 hlt' c6))
            go_ret
            exact ⟨ret_i64 HG.out.symm, HB.out.trans ((H1.trans (H2.mono H1.size)).mono HB.out.size)⟩
        · have hpb : (p != 0) = true := by rw [bne_iff_ne]; exact hp
          have HG : Hid (crightW l = p) := by
            have h1 := HF.out.1 hp
            show _ = _
            rw [HE.out, h1, if_pos hp]
          clear HF HN hp HE
          go_wp2_with (go_at_call 38; refine hcl.mono ?_; rintro e W1 ⟨rfl, H1⟩)
          go_ret
          exact ⟨ret_i64 HG.out.symm, HB.out.trans (H1.mono HB.out.size)⟩
      · have h0 : fe (sidesOf l) = 0 := by
          rw [fe_drop l i hi hall, show i = l.length by omega, List.drop_length]
          rfl
        have HG : Hid (crightW l = if 4000 < wrap64 (csize l) then 3 else 0) := by
          show _ = _
          rw [HE.out, h0, if_neg (by simp)]
        have hsz := rcsize_any l _ wr (HC.out.keep hb)
        clear HE h0 hall
        generalize wrap64 (csize l) = z at *
        by_cases hz : 4000 < z
        · have HZ : Hid (crightW l = 3) := by show _ = _; rw [HG.out, if_pos hz]
          go_wp2_with (go_at_call 11; refine hsz.mono ?_; rintro e W1 ⟨rfl, H1⟩)
          go_ret
          exact ⟨ret_i64 HZ.out.symm, hb.trans (H1.mono hb.size)⟩
        · have HZ : Hid (crightW l = 0) := by show _ = _; rw [HG.out, if_neg hz]
          go_wp2_with (go_at_call 11; refine hsz.mono ?_; rintro e W1 ⟨rfl, H1⟩)
          go_ret
          exact ⟨ret_i64 HZ.out.symm, hb.trans (H1.mono hb.size)⟩

end Go.Proofs.Ytgnjgpplelakkaa
